/-
  Texts of this proof laid together, in build order; each says of itself what it holds.
-/
import Derived.Test.YtnchgeiinkaefaaGreatDoorProg
import Derived.WalkKit
import Derived.WalkLawsBesides
import Derived.Below
import Derived.Deep.QuietTactic
import Derived.BigQuiet
import Derived.Deep.OwnRows
import Derived.WalkMore
import Derived.Outline
import Derived.Deep.RegionHeld3
import Derived.Lib.Strings
import Derived.Test.YtnchgeiinkaefaaGreatDoorZad
import Derived.Test.YtnchgeiinkaefaaGreatDoorZab
import Derived.Test.YtnchgeiinkaefaaGreatDoorZaa
import Derived.Test.YtnchgeiinkaefaaGreatDoorZac
section
/-
  Rows of invoices (a text and two numbers) in memory, and the laws' own helpers on them: size, copy, compare.
-/
namespace Go.Proofs.YtnchgeiinkaefaaGreatDoor.BRow
set_option linter.unusedVariables false
open Go.RowKit

theorem hide {p : Prop} (h : p) : Hid p := h
theorem unhide {p : Prop} (h : Hid p) : p := h

abbrev R := ByteArray × Int × Int
abbrev R0 : R := (ByteArray.empty, 0, 0)
/-- from o on block b holds the rows l -/
def RC (W : World) (b o : Nat) (l : List R) : Prop := b < W.heap.size ∧ ∀ i, i < l.length → W.cell? ⟨b, o + i * 3, none⟩ = some (.string (l.getD i R0).1) ∧ W.cell? ⟨b, o + i * 3 + 1, none⟩ = some (.int .i64 (l.getD i R0).2.1) ∧ W.cell? ⟨b, o + i * 3 + 2, none⟩ = some (.int .i64 (l.getD i R0).2.2)

/-- the slice v holds the rows l -/
def RR (W : World) (v : Value) (l : List R) : Prop :=
  (l = [] ∧ ∃ a c, v = .slice a 0 c) ∨ ∃ b o cap, v = .slice (some ⟨b, o, none⟩) l.length cap ∧ RC W b o l

theorem RC.kept {W W' : World} {b o : Nat} {l : List R} (h : RC W b o l) (hb : Below W.heap.size W W') : RC W' b o l :=
  ⟨Nat.lt_of_lt_of_le h.1 hb.size, fun i hi => ⟨(hb.cell (p := ⟨b, o + i * 3, none⟩) h.1).trans (h.2 i hi).1, (hb.cell (p := ⟨b, o + i * 3 + 1, none⟩) h.1).trans (h.2 i hi).2.1, (hb.cell (p := ⟨b, o + i * 3 + 2, none⟩) h.1).trans (h.2 i hi).2.2⟩⟩
theorem RR.kept {W W' : World} {v : Value} {l : List R} (h : RR W v l) (hb : Below W.heap.size W W') : RR W' v l := by
  rcases h with h | ⟨b, o, cap, rfl, hc⟩
  · exact .inl h
  · exact .inr ⟨b, o, cap, rfl, hc.kept hb⟩
theorem RR.slice {W : World} {v : Value} {l : List R} (h : RR W v l) : ∃ a c, v = .slice a l.length c := by
  rcases h with ⟨rfl, a, c, rfl⟩ | ⟨b, o, cap, rfl, _⟩
  · exact ⟨_, _, rfl⟩
  · exact ⟨_, _, rfl⟩
theorem below_trans {w w1 w2 : World} (h : Below w.heap.size w w1) (k : Below w1.heap.size w1 w2) : Below w.heap.size w w2 := h.trans (k.mono h.size)

/-! ### The copy -/

/-- a row of rows of the call's own: block b holds l, nothing of it is frozen -/
def ROwn (W : World) (b : Nat) (l : List R) : Prop := RC W b 0 l ∧ ∀ j, W.frozen? ⟨b, j, none⟩ = false

/-- the slice v holds the rows l in a block of its own, not below B -/
def RN (B : Nat) (W : World) (v : Value) (l : List R) : Prop :=
  (l = [] ∧ ∃ a c, v = .slice a 0 c) ∨ ∃ b cap, v = .slice (some ⟨b, 0, none⟩) l.length cap ∧ (B ≤ b ∧ l.length ≤ cap) ∧ ROwn W b l
theorem RN.er {B : Nat} {W : World} {v : Value} {l : List R} (h : RN B W v l) : RR W v l := by
  rcases h with h | ⟨b, cap, rfl, _, hc⟩
  · exact .inl h
  · exact .inr ⟨b, 0, cap, rfl, hc.1⟩

theorem ROwn.set {W : World} {b : Nat} {l : List R} (h : ROwn W b l) {k : Nat} (hk : k < l.length) (x : R) :
    ROwn (((W.setCell ⟨b, 0 + k * 3, none⟩ (.string x.1)).setCell ⟨b, 0 + k * 3 + 1, none⟩ (.int .i64 x.2.1)).setCell ⟨b, 0 + k * 3 + 2, none⟩ (.int .i64 x.2.2)) b (l.set k x) := by
  refine ⟨⟨by simpa using h.1.1, fun i hi => ?_⟩, fun j => by simpa [World.frozen?_setCell] using h.2 j⟩
  have hi' : i < l.length := by simpa using hi
  obtain ⟨c0, c1, c2⟩ := h.1.2 i hi'
  by_cases e : i = k
  · subst e
    rw [List.getD_eq_getElem?_getD, List.getElem?_set_self hi']
    refine ⟨?_, ?_, ?_⟩
    · rw [World.cell?_setCell_other _ _ _ _ (by simp), World.cell?_setCell_other _ _ _ _ (by simp)]
      exact World.cell?_setCell_same _ _ _ c0
    · rw [World.cell?_setCell_other _ _ _ _ (by simp)]
      exact World.cell?_setCell_same _ _ _ (by rw [World.cell?_setCell_other _ _ _ _ (by simp)]; exact c1)
    · exact World.cell?_setCell_same _ _ _ (by rw [World.cell?_setCell_other _ _ _ _ (by simp), World.cell?_setCell_other _ _ _ _ (by simp)]; exact c2)
  · have d : ∀ (a b' : Nat), a < 3 → b' < 3 → (⟨b, 0 + k * 3 + b', none⟩ : Addr) ≠ ⟨b, 0 + i * 3 + a, none⟩ := fun a b' ha hb he => by
      simp only [Addr.mk.injEq, and_true, true_and] at he; omega
    have d00 := d 0 0 (by omega) (by omega)
    have d01 := d 0 1 (by omega) (by omega)
    have d02 := d 0 2 (by omega) (by omega)
    have d10 := d 1 0 (by omega) (by omega)
    have d20 := d 2 0 (by omega) (by omega)
    simp only [Nat.add_zero] at d00 d01 d02 d10 d20
    rw [World.cell?_setCell_other _ _ _ _ d02, World.cell?_setCell_other _ _ _ _ d01, World.cell?_setCell_other _ _ _ _ d00, World.cell?_setCell_other _ _ _ _ (d 1 2 (by omega) (by omega)), World.cell?_setCell_other _ _ _ _ (d 1 1 (by omega) (by omega)), World.cell?_setCell_other _ _ _ _ d10, World.cell?_setCell_other _ _ _ _ (d 2 2 (by omega) (by omega)), World.cell?_setCell_other _ _ _ _ (d 2 1 (by omega) (by omega)), World.cell?_setCell_other _ _ _ _ d20, c0, c1, c2, List.getD_eq_getElem?_getD, List.getD_eq_getElem?_getD, List.getElem?_set_ne (by omega)]
    exact ⟨rfl, rfl, rfl⟩

theorem ROwn.kept {W W' : World} {b : Nat} {l : List R} (h : ROwn W b l) (hb : Below W.heap.size W W') : ROwn W' b l :=
  ⟨h.1.kept hb, fun j => (hb.frozen (p := ⟨b, j, none⟩) h.1.1).trans (h.2 j)⟩
theorem RN.kept {B : Nat} {W W' : World} {v : Value} {l : List R} (h : RN B W v l) (hb : Below W.heap.size W W') : RN B W' v l := by
  rcases h with h | ⟨b, cap, rfl, h1, hc⟩
  · exact .inl h
  · exact .inr ⟨b, cap, rfl, h1, hc.kept hb⟩
theorem RN.low {B B' : Nat} {W : World} {v : Value} {l : List R} (h : RN B W v l) (hb : B' ≤ B) : RN B' W v l := by
  rcases h with h | ⟨b, cap, rfl, h1, hc⟩
  · exact .inl h
  · exact .inr ⟨b, cap, rfl, ⟨Nat.le_trans hb h1.1, h1.2⟩, hc⟩

/-- there is room for what it holds -/
def capOk (v : Value) : Prop := ∀ a n c, v = .slice a n c → n ≤ c
theorem RN.cap {B : Nat} {W : World} {v : Value} {l : List R} (h : RN B W v l) : capOk v := by
  intro a n c hv
  rcases h with ⟨_, a', c', rfl⟩ | ⟨b, cap, rfl, h1, _⟩
  · simp only [Value.slice.injEq] at hv; omega
  · simp only [Value.slice.injEq] at hv; omega

theorem infoR : (Tryz.prog.info? 55).map (fun i => (i.zero, i.size, i.bytes)) = some (some (.agg #[.string ByteArray.empty, .int .i64 0, .int .i64 0]), 3, 32) := by kernel_rfl

theorem ROwn.made (w : World) (n : Nat) (t : TypeId) : ROwn (w.alloc (.cells (madeCells #[.string ByteArray.empty, .int .i64 0, .int .i64 0] (n * 3)) t)) w.heap.size (List.replicate n R0) := by
  have e1 := (MapKept.heap_alloc w (.cells (madeCells #[.string ByteArray.empty, .int .i64 0, .int .i64 0] (n * 3)) t)).1
  refine ⟨⟨by simp, fun i hi => ?_⟩, fun j => ?_⟩
  · have hi' : i < n := by simpa using hi
    have m0 : i * 3 % 3 = 0 := by omega
    have m1 : (i * 3 + 1) % 3 = 1 := by omega
    have m2 : (i * 3 + 2) % 3 = 2 := by omega
    have l0 : i * 3 < n * 3 := by omega
    have l1 : i * 3 + 1 < n * 3 := by omega
    have l2 : i * 3 + 2 < n * 3 := by omega
    simp only [World.cell?]
    rw [e1]
    refine ⟨?_, ?_, ?_⟩
    · simp [madeCells, hi', l0, m0]
    · simp [madeCells, hi', l1, m1]
    · simp [madeCells, hi', l2, m2]
  · simp only [World.frozen?]
    rw [e1]; simp

theorem copy_step (l : List R) (k : Nat) (h : k < l.length) : (l.take k ++ List.replicate (l.length - k) R0).set k (l.getD k R0) = l.take (k + 1) ++ List.replicate (l.length - (k + 1)) R0 := by
  have e : l.length - k = (l.length - (k + 1)) + 1 := by omega
  rw [e, List.replicate_succ, List.set_append_right _ _ (by simp; omega)]
  have e2 : k - (l.take k).length = 0 := by simp; omega
  rw [e2, List.set_cons_zero]
  have e3 : l.take (k + 1) = l.take k ++ [l.getD k R0] := by rw [List.take_add_one, List.getElem?_eq_getElem h]; simp [List.getD, h]
  rw [e3, List.append_assoc]; rfl

/-- eqBillRow, of one and the same -/
theorem eqRow (s : ByteArray) (m : Int) (p : Int) (w : World) :
    Calls Tryz.prog 29 #[.agg #[.string s, .int .i64 m, .int .i64 p], .agg #[.string s, .int .i64 m, .int .i64 p]] w fun e w' => e = .returned (.bool true) ∧ Below w.heap.size w w' := by
  have h1 : (!s.toList == s.toList) = false := by simp
  have h3 : (m != m) = false := by simp
  have h2 : (p != p) = false := by simp
  go_enter Tryz.func29, Tryz.ntmps29
  go_wp2
  go_ret
  exact ⟨rfl, ((Below.refl _ _).alloc (Nat.le_refl _) _).alloc (by simp) _⟩

theorem below_drewN' {B : Nat} {a w : World} (h : Below B a w) (k : Nat) : Below B a (w.drewN k) := ⟨h.os, h.tape, h.output, h.size, h.block⟩
theorem below_of_drew {B : Nat} {a w : World} (h : Below B a.drew w) : Below B a w := ⟨h.os, h.tape, h.output, h.size, h.block⟩
set_option maxHeartbeats 800000 in
theorem eqRows (v v' : Value) (l : List R) (w : World) (h : RR w v l) (h' : RR w v' l) (hl : l.length ≤ 1048576) :
    Calls Tryz.prog 10 #[v, v'] w fun e w' => e = .returned (.bool true) ∧ Below w.heap.size w w' := by
  have hn : (((l.length : Int)) != (l.length : Int)) = false := by simp
  by_cases h0 : l.length = 0
  · obtain rfl : l = [] := List.length_eq_zero_iff.1 h0
    obtain ⟨a, c, rfl⟩ := h.slice
    obtain ⟨a', c', rfl⟩ := h'.slice
    clear h h' h0 hl hn
    go_enter Tryz.func10, Tryz.ntmps10
    go_wp2
    refine wp_loop_rounds 1 ?_
    rw [rounds_succ]
    go_wp2
    go_ret
    exact ⟨rfl, Below.refl _ _⟩
  · rcases h with ⟨rfl, _⟩ | ⟨b, o, cap, rfl, hc⟩
    · simp at h0
    rcases h' with ⟨rfl, _⟩ | ⟨b', o', cap', rfl, hc'⟩
    · simp at h0
    have HC := hide hc; have HC' := hide hc'
    have hbs := hc.1
    have hbs' := hc'.1
    clear hc hc' h0
    go_enter Tryz.func10, Tryz.ntmps10
    go_wp2
    go_loopw [5] (fun i wr => ∃ k : Nat, k ≤ l.length ∧ i = .int .i64 k ∧ Hid (Below w.heap.size w wr)) (fun i _ => l.length - (intOf i).toNat)
    case atStart => exact ⟨0, Nat.zero_le _, rfl, hide (Below.refl _ _)⟩
    case round =>
      obtain ⟨k, hk, rfl, hb⟩ := hrel
      by_cases hlt : k < l.length
      · obtain ⟨c0, c1, c2⟩ := ((unhide HC).kept (unhide hb)).2 k hlt
        obtain ⟨d0, d1, d2⟩ := ((unhide HC').kept (unhide hb)).2 k hlt
        have i1 : (0 : Int) ≤ (k : Int) := by omega
        have i2 : (k : Int) < (l.length : Int) := by omega
        have z1 : b < wr.heap.size := Nat.lt_of_lt_of_le hbs (unhide hb).size
        have z2 : b' < wr.heap.size := Nat.lt_of_lt_of_le hbs' (unhide hb).size
        generalize l.getD k R0 = x at *
        obtain ⟨s, m, q⟩ := x
        simp only at c0 c1 c2 d0 d1 d2
        go_wp2
        go_region_held3 (fun w2 => w2.cell? ⟨b, o + k * 3, none⟩ = some (.string s) ∧ w2.cell? ⟨b, o + k * 3 + 1, none⟩ = some (.int .i64 m) ∧ w2.cell? ⟨b, o + k * 3 + 2, none⟩ = some (.int .i64 q) ∧ w2.cell? ⟨b', o' + k * 3, none⟩ = some (.string s) ∧ w2.cell? ⟨b', o' + k * 3 + 1, none⟩ = some (.int .i64 m) ∧ w2.cell? ⟨b', o' + k * 3 + 2, none⟩ = some (.int .i64 q)) (go_keep) (first | (go_at_call 29; refine (eqRow s m q _).mono ?_; rintro e w1 ⟨rfl, hb1⟩; have q1 := hb1.cell (p := ⟨b, o + k * 3, none⟩) z1; have q2 := hb1.cell (p := ⟨b, o + k * 3 + 1, none⟩) z1; have q5 := hb1.cell (p := ⟨b, o + k * 3 + 2, none⟩) z1; have q3 := hb1.cell (p := ⟨b', o' + k * 3, none⟩) z2; have q4 := hb1.cell (p := ⟨b', o' + k * 3 + 1, none⟩) z2; have q6 := hb1.cell (p := ⟨b', o' + k * 3 + 2, none⟩) z2))
        have HB : Hid (Below w.heap.size w w1) := hide (below_trans (unhide hb) (below_of_drew hb1))
        clear hb1 hb q1 q2 q3 q4 q5 q6
        go_wp2
        exact ⟨⟨k + 1, by omega, by go_num, HB⟩, by simp [intOf]; omega⟩
      · go_wp2
        go_ret
        exact ⟨rfl, unhide hb⟩
end Go.Proofs.YtnchgeiinkaefaaGreatDoor.BRow
end

section
/-
  Invoices and bills in memory, and the laws' own helpers on them: size, copy, compare.
-/
namespace Go.Proofs.YtnchgeiinkaefaaGreatDoor.Bills
set_option linter.unusedVariables false
open Go.RowKit
open Evs (E E0 ER EN EC EOwn)
open BRow (R R0 RR RN RC ROwn)

theorem hide {p : Prop} (h : p) : Hid p := h
theorem unhide {p : Prop} (h : Hid p) : p := h
theorem below_trans {w w1 w2 : World} (h : Below w.heap.size w w1) (k : Below w1.heap.size w1 w2) : Below w.heap.size w w2 := h.trans (k.mono h.size)
theorem below_alloc (w : World) (o : Obj) : Below w.heap.size w (w.alloc o) := (Below.refl _ _).alloc (Nat.le_refl _) o

/-- an invoice -/
structure I where
  no : Int
  rows : List R
  evs : List E
  net : Int
  tax : Int
  credit : Int
  deriving DecidableEq, Inhabited
abbrev I0 : I := ⟨0, [], [], 0, 0, 0⟩
/-- a bill -/
structure B where
  tar : List E
  evs : List E
  invs : List I
  paid : Int
  deriving DecidableEq, Inhabited

/-- the cells of one invoice -/
def I6 (W : World) (b o : Nat) (x : I) (rv ev : Value) : Prop :=
  W.cell? ⟨b, o, none⟩ = some (.int .i64 x.no) ∧ W.cell? ⟨b, o + 1, none⟩ = some rv ∧ W.cell? ⟨b, o + 2, none⟩ = some ev ∧ W.cell? ⟨b, o + 3, none⟩ = some (.int .i64 x.net) ∧ W.cell? ⟨b, o + 4, none⟩ = some (.int .i64 x.tax) ∧ W.cell? ⟨b, o + 5, none⟩ = some (.int .i64 x.credit)
/-- what hangs on an invoice -/
def IW (W : World) (rv ev : Value) (x : I) : Prop := RR W rv x.rows ∧ ER W ev x.evs
/-- from o on block b holds the invoices l -/
def IC (W : World) (b o : Nat) (l : List I) : Prop := b < W.heap.size ∧ ∀ i, i < l.length → ∃ rv ev, I6 W b (o + i * 6) (l.getD i I0) rv ev ∧ IW W rv ev (l.getD i I0)
/-- the slice v holds the invoices l -/
def IR (W : World) (v : Value) (l : List I) : Prop :=
  (l = [] ∧ ∃ a c, v = .slice a 0 c) ∨ ∃ b o cap, v = .slice (some ⟨b, o, none⟩) l.length cap ∧ IC W b o l
/-- the value v is the bill x -/
def BV (W : World) (v : Value) (x : B) : Prop := ∃ tv ev iv, v = .agg #[tv, ev, iv, .int .i64 x.paid] ∧ ER W tv x.tar ∧ ER W ev x.evs ∧ IR W iv x.invs

theorem I6.kept {W W' : World} {b o : Nat} {x : I} {rv ev : Value} (h : I6 W b o x rv ev) (hl : b < W.heap.size) (hb : Below W.heap.size W W') : I6 W' b o x rv ev :=
  ⟨(hb.cell (p := ⟨b, o, none⟩) hl).trans h.1, (hb.cell (p := ⟨b, o + 1, none⟩) hl).trans h.2.1, (hb.cell (p := ⟨b, o + 2, none⟩) hl).trans h.2.2.1, (hb.cell (p := ⟨b, o + 3, none⟩) hl).trans h.2.2.2.1, (hb.cell (p := ⟨b, o + 4, none⟩) hl).trans h.2.2.2.2.1, (hb.cell (p := ⟨b, o + 5, none⟩) hl).trans h.2.2.2.2.2⟩
theorem IW.kept {W W' : World} {rv ev : Value} {x : I} (h : IW W rv ev x) (hb : Below W.heap.size W W') : IW W' rv ev x := ⟨h.1.kept hb, h.2.kept hb⟩
theorem IC.kept {W W' : World} {b o : Nat} {l : List I} (h : IC W b o l) (hb : Below W.heap.size W W') : IC W' b o l :=
  ⟨Nat.lt_of_lt_of_le h.1 hb.size, fun i hi => by
    obtain ⟨rv, ev, h6, hw⟩ := h.2 i hi
    exact ⟨rv, ev, h6.kept h.1 hb, hw.kept hb⟩⟩
theorem IR.kept {W W' : World} {v : Value} {l : List I} (h : IR W v l) (hb : Below W.heap.size W W') : IR W' v l := by
  rcases h with h | ⟨b, o, cap, rfl, hc⟩
  · exact .inl h
  · exact .inr ⟨b, o, cap, rfl, hc.kept hb⟩
theorem IR.slice {W : World} {v : Value} {l : List I} (h : IR W v l) : ∃ a c, v = .slice a l.length c := by
  rcases h with ⟨rfl, a, c, rfl⟩ | ⟨b, o, cap, rfl, _⟩
  · exact ⟨_, _, rfl⟩
  · exact ⟨_, _, rfl⟩
theorem BV.kept {W W' : World} {v : Value} {x : B} (h : BV W v x) (hb : Below W.heap.size W W') : BV W' v x := by
  obtain ⟨tv, ev, iv, rfl, h1, h2, h3⟩ := h
  exact ⟨tv, ev, iv, rfl, h1.kept hb, h2.kept hb, h3.kept hb⟩

/-! ### size -/
end Go.Proofs.YtnchgeiinkaefaaGreatDoor.Bills
end

section
/-
  spec.RuleStep.
-/
namespace Go.Proofs.YtnchgeiinkaefaaGreatDoor.Tiers
set_option linter.unusedVariables false
open Go.RowKit Coin

/-- what RuleStep answers -/
def stepB (l : List T) (q : Int) : Bool := rightB l && okB q && (stepF l q 0).isSome
def stepV (l : List T) (q : Int) : Int := if rightB l = true ∧ okB q = true then (stepF l q 0).getD 0 else 0
theorem stepB_bad {l : List T} {q : Int} (h : rightB l = false ∨ okB q = false) : stepB l q = false ∧ stepV l q = 0 := by
  unfold stepB stepV
  rcases h with h | h <;> simp [h]
theorem stepB_none {l : List T} {q : Int} (h : stepF l q 0 = none) : stepB l q = false ∧ stepV l q = 0 := by
  unfold stepB stepV
  simp [h]
theorem stepB_some {l : List T} {q x : Int} (h1 : rightB l = true) (h2 : okB q = true) (h : stepF l q 0 = some x) : stepB l q = true ∧ stepV l q = x := by
  unfold stepB stepV
  simp [h, h1, h2]

theorem okB_bd {n : Int} (h : okB n = true) : -1000000000000000 ≤ n ∧ n ≤ 1000000000000000 := okB_iff.1 h
theorem addB_parts {a b : Int} (h : addB a b = true) : okB a = true ∧ okB b = true ∧ okB (a + b) = true := by
  unfold addB at h; simp only [Bool.and_eq_true] at h; exact ⟨h.1.1, h.1.2, h.2⟩

set_option maxHeartbeats 2000000 in
set_option maxRecDepth 20000 in
theorem stepS (v : Value) (l : List T) (q : Int) (w : World) (h : TR w v l) (hl : l.length ≤ 1048576) :
    Calls Tryz.prog 89 #[v, .int .i64 q] w fun e w' => e = .returned (.tuple #[.int .i64 (stepV l q), .bool (stepB l q)]) ∧ Below w.heap.size w w' := by
  have H := hide h
  cases hr : rightB l
  · obtain ⟨e1, e2⟩ := stepB_bad (q := q) (.inl hr)
    rw [e1, e2]
    clear e1 e2 h
    go_enter Tryz.func89, Tryz.ntmps89
    go_wp2_with (fail)
    refine (rightS v l w (unhide H) hl).mono ?_
    rintro e w1 ⟨rfl, hb⟩
    have HB := hide hb; clear hb
    go_wp2_with (fail)
    go_ret2
    exact ⟨rfl, unhide HB⟩
  cases hq : okB q
  · obtain ⟨e1, e2⟩ := stepB_bad (l := l) (.inr hq)
    rw [e1, e2]
    clear e1 e2 h
    go_enter Tryz.func89, Tryz.ntmps89
    go_wp2_with (fail)
    refine (rightS v l w (unhide H) hl).mono ?_
    rintro e w1 ⟨rfl, hb⟩
    have HB := hide hb; clear hb
    go_wp2_with (fail)
    refine (okS q _).mono ?_
    rintro e w2 ⟨rfl, rfl⟩
    go_wp2_with (fail)
    go_ret2
    exact ⟨rfl, unhide HB⟩
  obtain ⟨z1, z2⟩ := rightB_len hr
  rcases h with ⟨rfl, a, c, rfl⟩ | ⟨b, o, cap, rfl, hc⟩
  · simp at z1
  have HC := hide hc
  have HAT : Hid (∀ k, k < l.length → okT l.length k (l.getD k T0) = true) := hide (fun k hk => rightB_at hr hk)
  obtain ⟨qb1, qb2⟩ := okB_bd hq
  have HV : Hid (∀ x, stepF l q 0 = some x → stepB l q = true ∧ stepV l q = x) := hide (fun x hx => stepB_some hr hq hx)
  have HN : Hid (stepF l q 0 = none → stepB l q = false ∧ stepV l q = 0) := hide stepB_none
  generalize stepB l q = rb at *
  generalize stepV l q = rv at *
  have HS : Hid (stepF l q 0 = stepF (l.drop 0) q 0) := hide rfl
  generalize stepF l q 0 = F at *
  clear hc
  go_enter Tryz.func89, Tryz.ntmps89
  go_wp2_with (fail)
  refine (rightS _ l w (unhide H) hl).mono ?_
  rintro e w1 ⟨rfl, hb⟩
  have HB := hide hb
  have HC1 := hide ((unhide HC).kept hb)
  clear hb HC
  go_wp2_with (fail)
  refine (okS q _).mono ?_
  rintro e w2 ⟨rfl, rfl⟩
  go_wp2_with (fail)
  go_loop [6, 7, 1] (fun t i p => ∃ (k : Nat) (out q' : Int), k ≤ l.length ∧ i = .int .i64 k ∧ t = .int .i64 out ∧ p = .int .i64 q' ∧ -1000000000000000 ≤ out ∧ out ≤ 1000000000000000 ∧ -1000000000000000 ≤ q' ∧ q' ≤ 1000000000000000 ∧ Hid (F = stepF (l.drop k) q' out)) (fun _ i _ => l.length - (intOf i).toNat)
  case atStart => exact ⟨0, 0, q, Nat.zero_le _, rfl, rfl, rfl, by omega, by omega, qb1, qb2, HS⟩
  case round =>
    obtain ⟨k, out, q', hk, rfl, rfl, rfl, o1, o2, q1, q2, hF⟩ := hrel
    clear hr hq qb1 qb2 HS
    by_cases hlt : k < l.length
    · by_cases hpos : 0 < q'
      · obtain ⟨c0, c1⟩ := (unhide HC1).2 k hlt
        obtain ⟨_, t1, t2, t3, t4⟩ := okT_of (unhide HAT k hlt)
        have i1 : (0 : Int) ≤ (k : Int) := by omega
        have i2 : (k : Int) < (l.length : Int) := by omega
        have HG := hide (fun hf ha => (unhide hF).trans (stepF_go (out := out) hlt hpos hf ha))
        have HO := hide (fun h => (unhide hF).trans (stepF_no (out := out) hlt hpos h))
        have e0 : l.getD k (0, 0) = l.getD k T0 := rfl
        rw [e0] at HG HO
        clear e0 hF
        generalize l.getD k T0 = t at *
        obtain ⟨x, y⟩ := t
        simp only at c0 c1 t1 t2 t3 t4 HG HO
        by_cases hx : 0 < x ∧ x < q'
        · rw [nOf_small hx.1 hx.2] at HG HO
          obtain ⟨hx1, hx2⟩ := hx
          go_wp2_with (fail)
          refine (timesS x y _).mono ?_
          rintro e w2 ⟨rfl, rfl⟩
          cases hf : fitB x y
          · generalize timesV x y = tv at *
            have hF := unhide HO (.inl hf)
            obtain ⟨rfl, rfl⟩ := unhide HN hF
            clear hF HO HG HN HV
            go_wp2_with (fail)
            refine (addS out tv _).mono ?_
            rintro e w3 ⟨rfl, rfl⟩
            generalize addB out tv = bb at *
            generalize addV out tv = bv at *
            go_wp2_with (fail)
            go_ret2
            exact ⟨rfl, unhide HB⟩
          · rw [timesV_yes hf]
            obtain ⟨_, _, p1, p2⟩ := fit_ok hf
            generalize x * y = pr at *
            go_wp2_with (fail)
            refine (addS out pr _).mono ?_
            rintro e w3 ⟨rfl, rfl⟩
            cases ha : addB out pr
            · rw [addV_no ha]
              have hF := unhide HO (.inr ha)
              obtain ⟨rfl, rfl⟩ := unhide HN hF
              clear hF HO HG HN HV
              go_wp2_with (fail)
              go_ret2
              exact ⟨rfl, unhide HB⟩
            · rw [addV_yes ha]
              obtain ⟨s1, s2⟩ := okB_bd (addB_parts ha).2.2
              have hF := hide (unhide HG hf ha)
              clear HO HG HN HV
              go_wp2_with (fail)
              exact ⟨⟨k + 1, out + pr, q' - x, by omega, by go_num, rfl, rfl, s1, s2, by omega, by omega, hF⟩, by simp [intOf]; omega⟩
        · rw [nOf_all hx] at HG HO
          by_cases hx1 : 0 < x
          · have hx2 : ¬ x < q' := fun h => hx ⟨hx1, h⟩
            clear hx
            go_wp2_with (fail)
            refine (timesS q' y _).mono ?_
            rintro e w2 ⟨rfl, rfl⟩
            cases hf : fitB q' y
            · generalize timesV q' y = tv at *
              have hF := unhide HO (.inl hf)
              obtain ⟨rfl, rfl⟩ := unhide HN hF
              clear hF HO HG HN HV
              go_wp2_with (fail)
              refine (addS out tv _).mono ?_
              rintro e w3 ⟨rfl, rfl⟩
              generalize addB out tv = bb at *
              generalize addV out tv = bv at *
              go_wp2_with (fail)
              go_ret2
              exact ⟨rfl, unhide HB⟩
            · rw [timesV_yes hf]
              obtain ⟨_, _, p1, p2⟩ := fit_ok hf
              generalize q' * y = pr at *
              go_wp2_with (fail)
              refine (addS out pr _).mono ?_
              rintro e w3 ⟨rfl, rfl⟩
              cases ha : addB out pr
              · rw [addV_no ha]
                have hF := unhide HO (.inr ha)
                obtain ⟨rfl, rfl⟩ := unhide HN hF
                clear hF HO HG HN HV
                go_wp2_with (fail)
                go_ret2
                exact ⟨rfl, unhide HB⟩
              · rw [addV_yes ha]
                obtain ⟨s1, s2⟩ := okB_bd (addB_parts ha).2.2
                have hF := hide (unhide HG hf ha)
                clear HO HG HN HV
                go_wp2_with (fail)
                exact ⟨⟨k + 1, out + pr, q' - q', by omega, by go_num, rfl, by simp, s1, s2, by omega, by omega, hF⟩, by simp [intOf]; omega⟩
          · clear hx
            go_wp2_with (fail)
            refine (timesS q' y _).mono ?_
            rintro e w2 ⟨rfl, rfl⟩
            cases hf : fitB q' y
            · generalize timesV q' y = tv at *
              have hF := unhide HO (.inl hf)
              obtain ⟨rfl, rfl⟩ := unhide HN hF
              clear hF HO HG HN HV
              go_wp2_with (fail)
              refine (addS out tv _).mono ?_
              rintro e w3 ⟨rfl, rfl⟩
              generalize addB out tv = bb at *
              generalize addV out tv = bv at *
              go_wp2_with (fail)
              go_ret2
              exact ⟨rfl, unhide HB⟩
            · rw [timesV_yes hf]
              obtain ⟨_, _, p1, p2⟩ := fit_ok hf
              generalize q' * y = pr at *
              go_wp2_with (fail)
              refine (addS out pr _).mono ?_
              rintro e w3 ⟨rfl, rfl⟩
              cases ha : addB out pr
              · rw [addV_no ha]
                have hF := unhide HO (.inr ha)
                obtain ⟨rfl, rfl⟩ := unhide HN hF
                clear hF HO HG HN HV
                go_wp2_with (fail)
                go_ret2
                exact ⟨rfl, unhide HB⟩
              · rw [addV_yes ha]
                obtain ⟨s1, s2⟩ := okB_bd (addB_parts ha).2.2
                have hF := hide (unhide HG hf ha)
                clear HO HG HN HV
                go_wp2_with (fail)
                exact ⟨⟨k + 1, out + pr, q' - q', by omega, by go_num, rfl, by simp, s1, s2, by omega, by omega, hF⟩, by simp [intOf]; omega⟩
      · have hF2 := (unhide hF).trans (stepF_end _ (by omega))
        obtain ⟨rfl, rfl⟩ := unhide HV _ hF2
        clear hF2 HN HV hF
        go_wp2_with (fail)
        go_ret2
        exact ⟨rfl, unhide HB⟩
    · have hF2 := (unhide hF).trans (stepF_nil (by omega))
      obtain ⟨rfl, rfl⟩ := unhide HV _ hF2
      clear hF2 HN HV hF
      go_wp2_with (fail)
      go_ret2
      exact ⟨rfl, unhide HB⟩
end Go.Proofs.YtnchgeiinkaefaaGreatDoor.Tiers
end

section
/-
  By steps more never costs less, and one unit more costs the price of a step; no program in it.
-/
namespace Go.Proofs.YtnchgeiinkaefaaGreatDoor.Tiers
set_option linter.unusedVariables false
open Coin

/-- what q units cost -/
def cost : List T → Int → Int
  | [], q => 0
  | t :: ts, q => if q ≤ 0 then 0 else nOf t.1 q * t.2 + cost ts (q - nOf t.1 q)

/-- prices and sizes are not below nought -/
def Fair (l : List T) : Prop := ∀ t ∈ l, 0 ≤ t.1 ∧ 0 ≤ t.2
theorem Fair.tail {t : T} {ts : List T} (h : Fair (t :: ts)) : Fair ts := fun u hu => h u (List.mem_cons_of_mem _ hu)
theorem stepB_parts {l : List T} {q : Int} (h : stepB l q = true) : rightB l = true ∧ okB q = true ∧ stepF l q 0 = some (stepV l q) := by
  unfold stepB at h
  simp only [Bool.and_eq_true] at h
  obtain ⟨x, hx⟩ := Option.isSome_iff_exists.1 h.2
  exact ⟨h.1.1, h.1.2, by rw [hx, (stepB_some h.1.1 h.1.2 hx).2]⟩
theorem stepF_bd : ∀ (l : List T) (q out x : Int), okB out = true → stepF l q out = some x → okB x = true
  | [], q, out, x, h, e => by simp only [stepF, Option.some.injEq] at e; rw [← e]; exact h
  | t :: ts, q, out, x, h, e => by
    unfold stepF at e
    split at e
    · simp only [Option.some.injEq] at e; rw [← e]; exact h
    · split at e
      · rename_i hh
        exact stepF_bd ts _ _ _ (addB_parts hh.2).2.2 e
      · cases e
theorem stepV_bd (l : List T) (q : Int) : -1000000000000000 ≤ stepV l q ∧ stepV l q ≤ 1000000000000000 := by
  cases h : stepB l q
  · unfold stepV
    split
    · rename_i hh
      unfold stepB at h
      rw [hh.1, hh.2] at h
      simp only [Bool.true_and, Option.isSome_eq_false_iff, Option.isNone_iff_eq_none] at h
      rw [h]; simp
    · omega
  · exact okB_bd (stepF_bd l q 0 _ (by decide) (stepB_parts h).2.2)
end Go.Proofs.YtnchgeiinkaefaaGreatDoor.Tiers
end

section
/-
  Slices of uses (a text and a number) in memory, and the laws' own helpers on them: size, copy, compare.
-/
namespace Go.Proofs.YtnchgeiinkaefaaGreatDoor.Uses
set_option linter.unusedVariables false
open Go.RowKit

theorem hide {p : Prop} (h : p) : Hid p := h
theorem unhide {p : Prop} (h : Hid p) : p := h

abbrev U := ByteArray × Int
abbrev U0 : U := (ByteArray.empty, 0)

/-- from o on block b holds the uses l -/
def UC (W : World) (b o : Nat) (l : List U) : Prop := b < W.heap.size ∧ ∀ i, i < l.length → W.cell? ⟨b, o + i * 2, none⟩ = some (.string (l.getD i U0).1) ∧ W.cell? ⟨b, o + i * 2 + 1, none⟩ = some (.int .i64 (l.getD i U0).2)

/-- the slice v holds the uses l -/
def UR (W : World) (v : Value) (l : List U) : Prop :=
  (l = [] ∧ ∃ a c, v = .slice a 0 c) ∨ ∃ b o cap, v = .slice (some ⟨b, o, none⟩) l.length cap ∧ UC W b o l

theorem UC.kept {W W' : World} {b o : Nat} {l : List U} (h : UC W b o l) (hb : Below W.heap.size W W') : UC W' b o l :=
  ⟨Nat.lt_of_lt_of_le h.1 hb.size, fun i hi => ⟨(hb.cell (p := ⟨b, o + i * 2, none⟩) h.1).trans (h.2 i hi).1, (hb.cell (p := ⟨b, o + i * 2 + 1, none⟩) h.1).trans (h.2 i hi).2⟩⟩
theorem UR.kept {W W' : World} {v : Value} {l : List U} (h : UR W v l) (hb : Below W.heap.size W W') : UR W' v l := by
  rcases h with h | ⟨b, o, cap, rfl, hc⟩
  · exact .inl h
  · exact .inr ⟨b, o, cap, rfl, hc.kept hb⟩
theorem below_trans {w w1 w2 : World} (h : Below w.heap.size w w1) (k : Below w1.heap.size w1 w2) : Below w.heap.size w w2 := h.trans (k.mono h.size)

/-! ### The copy -/

/-- a row of uses of the call's own: block b holds l, nothing of it is frozen -/
def UOwn (W : World) (b : Nat) (l : List U) : Prop := UC W b 0 l ∧ ∀ j, W.frozen? ⟨b, j, none⟩ = false

theorem UOwn.set {W : World} {b : Nat} {l : List U} (h : UOwn W b l) {k : Nat} (hk : k < l.length) (x : U) :
    UOwn ((W.setCell ⟨b, 0 + k * 2, none⟩ (.string x.1)).setCell ⟨b, 0 + k * 2 + 1, none⟩ (.int .i64 x.2)) b (l.set k x) := by
  refine ⟨⟨by simpa using h.1.1, fun i hi => ?_⟩, fun j => by simpa [World.frozen?_setCell] using h.2 j⟩
  have hi' : i < l.length := by simpa using hi
  obtain ⟨c0, c1⟩ := h.1.2 i hi'
  by_cases e : i = k
  · subst e
    rw [List.getD_eq_getElem?_getD, List.getElem?_set_self hi']
    refine ⟨?_, ?_⟩
    · rw [World.cell?_setCell_other _ _ _ _ (by simp)]
      exact World.cell?_setCell_same _ _ _ c0
    · exact World.cell?_setCell_same _ _ _ (by rw [World.cell?_setCell_other _ _ _ _ (by simp)]; exact c1)
  · rw [World.cell?_setCell_other _ _ _ _ (by simp), World.cell?_setCell_other _ _ _ _ (by simp), World.cell?_setCell_other _ _ _ _ (by simp), World.cell?_setCell_other _ _ _ _ (by simp), c0, c1, List.getD_eq_getElem?_getD, List.getD_eq_getElem?_getD, List.getElem?_set_ne (by omega)]
    exact ⟨rfl, rfl⟩

theorem UOwn.kept {W W' : World} {b : Nat} {l : List U} (h : UOwn W b l) (hb : Below W.heap.size W W') : UOwn W' b l :=
  ⟨h.1.kept hb, fun j => (hb.frozen (p := ⟨b, j, none⟩) h.1.1).trans (h.2 j)⟩

theorem infoU : (Tryz.prog.info? 73).map (fun i => (i.zero, i.size, i.bytes)) = some (some (.agg #[.string ByteArray.empty, .int .i64 0]), 2, 24) := by kernel_rfl

theorem UOwn.made (w : World) (n : Nat) (t : TypeId) : UOwn (w.alloc (.cells (madeCells #[.string ByteArray.empty, .int .i64 0] (n * 2)) t)) w.heap.size (List.replicate n U0) := by
  have e1 := (MapKept.heap_alloc w (.cells (madeCells #[.string ByteArray.empty, .int .i64 0] (n * 2)) t)).1
  refine ⟨⟨by simp, fun i hi => ?_⟩, fun j => ?_⟩
  · have hi' : i < n := by simpa using hi
    have m0 : i * 2 % 2 = 0 := by omega
    have m1 : (i * 2 + 1) % 2 = 1 := by omega
    have l0 : i * 2 < n * 2 := by omega
    have l1 : i * 2 + 1 < n * 2 := by omega
    simp only [World.cell?]
    rw [e1]
    constructor
    · simp [madeCells, hi', l0, m0]
    · simp [madeCells, hi', l1, m1]
  · simp only [World.frozen?]
    rw [e1]; simp

theorem copy_step (l : List U) (k : Nat) (h : k < l.length) : (l.take k ++ List.replicate (l.length - k) U0).set k (l.getD k U0) = l.take (k + 1) ++ List.replicate (l.length - (k + 1)) U0 := by
  have e : l.length - k = (l.length - (k + 1)) + 1 := by omega
  rw [e, List.replicate_succ, List.set_append_right _ _ (by simp; omega)]
  have e2 : k - (l.take k).length = 0 := by simp; omega
  rw [e2, List.set_cons_zero]
  have e3 : l.take (k + 1) = l.take k ++ [l.getD k U0] := by rw [List.take_add_one, List.getElem?_eq_getElem h]; simp [List.getD, h]
  rw [e3, List.append_assoc]; rfl

theorem below_drewN' {B : Nat} {a w : World} (h : Below B a w) (k : Nat) : Below B a (w.drewN k) := ⟨h.os, h.tape, h.output, h.size, h.block⟩
theorem below_of_drew {B : Nat} {a w : World} (h : Below B a.drew w) : Below B a w := ⟨h.os, h.tape, h.output, h.size, h.block⟩
/-! ### RuleOf -/

/-- how much of a meter was used -/
def ofV (m : ByteArray) : List U → Int
  | [] => 0
  | u :: us => if u.1 = m then u.2 else ofV m us

theorem ofV_hit (m : ByteArray) : ∀ (l : List U) (k : Nat), k < l.length → (∀ j, j < k → (l.getD j U0).1 ≠ m) → (l.getD k U0).1 = m → ofV m l = (l.getD k U0).2
  | [], k, h, _, _ => by simp at h
  | u :: us, 0, _, _, h => by simp only [List.getD_cons_zero] at h ⊢; simp [ofV, h]
  | u :: us, k + 1, hk, hj, h => by
    have h0 := hj 0 (by omega)
    simp only [List.getD_cons_zero] at h0
    simp only [List.getD_cons_succ] at h ⊢
    rw [ofV, if_neg h0]
    exact ofV_hit m us k (by simpa using hk) (fun j hj' => by have := hj (j + 1) (by omega); simpa using this) h
theorem ofV_none (m : ByteArray) : ∀ (l : List U), (∀ j, j < l.length → (l.getD j U0).1 ≠ m) → ofV m l = 0
  | [], _ => rfl
  | u :: us, hj => by
    have h0 := hj 0 (by simp)
    simp only [List.getD_cons_zero] at h0
    rw [ofV, if_neg h0]
    exact ofV_none m us (fun j hj' => by have := hj (j + 1) (by simp; omega); simpa using this)

theorem ext_toList {s t : ByteArray} (h : s.toList = t.toList) : s = t := by
  rw [Lib.toList_data, Lib.toList_data] at h
  cases s; cases t
  simp only at h
  rw [Array.toList_inj.1 h]

set_option maxHeartbeats 800000 in
/-- spec.RuleOf -/
theorem ofS (v : Value) (l : List U) (m : ByteArray) (w : World) (h : UR w v l) (hl : l.length ≤ 1048576) :
    Calls Tryz.prog 87 #[v, .string m] w fun e w' => e = .returned (.int .i64 (ofV m l)) ∧ Below w.heap.size w w' := by
  rcases h with ⟨rfl, a, c, rfl⟩ | ⟨b, o, cap, rfl, hc⟩
  · go_enter Tryz.func87, Tryz.ntmps87
    go_wp2
    refine wp_loop_rounds 1 ?_
    rw [rounds_succ]
    go_wp2
    go_ret
    exact ⟨rfl, Below.refl _ _⟩
  · have HC := hide hc; clear hc
    generalize hr : ofV m l = r
    have HR := hide hr; clear hr
    go_enter Tryz.func87, Tryz.ntmps87
    go_wp2
    go_loop [5] (fun i => ∃ k : Nat, k ≤ l.length ∧ i = .int .i64 k ∧ Hid (∀ j, j < k → (l.getD j U0).1 ≠ m)) (fun i => l.length - (intOf i).toNat)
    case atStart => exact ⟨0, Nat.zero_le _, rfl, hide (fun j hj => by omega)⟩
    case round =>
      obtain ⟨k, hk, rfl, hd⟩ := hrel
      by_cases hlt : k < l.length
      · obtain ⟨c0, c1⟩ := (unhide HC).2 k hlt
        by_cases he : (l.getD k U0).1 = m
        · have hr := (unhide HR).symm.trans (ofV_hit m l k hlt (unhide hd) he)
          rw [he] at c0
          rw [← hr] at c1
          clear he hr
          have hx : (m.toList == m.toList) = true := by simp
          go_wp2
          go_ret
          exact ⟨rfl, Below.refl _ _⟩
        · have hd' : Hid (∀ j, j < k + 1 → (l.getD j U0).1 ≠ m) := hide (fun j hj => by
            by_cases e : j < k
            · exact unhide hd j e
            · obtain rfl : j = k := by omega
              exact he)
          have hx : ((l.getD k U0).1.toList == m.toList) = false := by
            rw [beq_eq_false_iff_ne]; intro e; exact he (ext_toList e)
          clear he
          generalize (l.getD k U0).1 = s at *
          generalize (l.getD k U0).2 = q at *
          go_wp2
          exact ⟨⟨k + 1, by omega, by go_num, hd'⟩, by simp [intOf]; omega⟩
      · have hr : r = 0 := by rw [← unhide HR]; exact ofV_none m l (fun j hj => unhide hd j (by omega))
        subst hr
        go_wp2
        go_ret
        exact ⟨rfl, Below.refl _ _⟩

set_option maxHeartbeats 800000 in
/-- impl.RuleOf -/
theorem ofI (v : Value) (l : List U) (m : ByteArray) (w : World) (h : UR w v l) (hl : l.length ≤ 1048576) :
    Calls Tryz.prog 271 #[v, .string m] w fun e w' => e = .returned (.int .i64 (ofV m l)) ∧ Below w.heap.size w w' := by
  rcases h with ⟨rfl, a, c, rfl⟩ | ⟨b, o, cap, rfl, hc⟩
  · go_enter Tryz.func271, Tryz.ntmps271
    go_wp2
    refine wp_loop_rounds 1 ?_
    rw [rounds_succ]
    go_wp2
    go_ret
    exact ⟨rfl, Below.refl _ _⟩
  · have HC := hide hc; clear hc
    generalize hr : ofV m l = r
    have HR := hide hr; clear hr
    go_enter Tryz.func271, Tryz.ntmps271
    go_wp2
    go_loopw [9] (fun i wr => ∃ k : Nat, k ≤ l.length ∧ i = .int .i64 k ∧ Hid (∀ j, j < k → (l.getD j U0).1 ≠ m) ∧ Hid (Below w.heap.size w wr)) (fun i _ => l.length - (intOf i).toNat)
    case atStart => exact ⟨0, Nat.zero_le _, rfl, hide (fun j hj => by omega), hide (Below.refl _ _)⟩
    case round =>
      obtain ⟨k, hk, rfl, hd, hb⟩ := hrel
      by_cases hlt : k < l.length
      · obtain ⟨c0, c1⟩ := ((unhide HC).kept (unhide hb)).2 k hlt
        by_cases he : (l.getD k U0).1 = m
        · have hr := (unhide HR).symm.trans (ofV_hit m l k hlt (unhide hd) he)
          rw [he] at c0
          rw [← hr] at c1
          clear he hr
          have hx : (m.toList == m.toList) = true := by simp
          go_wp2
          go_ret
          exact ⟨rfl, (unhide hb).alloc (unhide hb).size _⟩
        · have hd' : Hid (∀ j, j < k + 1 → (l.getD j U0).1 ≠ m) := hide (fun j hj => by
            by_cases e : j < k
            · exact unhide hd j e
            · obtain rfl : j = k := by omega
              exact he)
          have hx : ((l.getD k U0).1.toList == m.toList) = false := by
            rw [beq_eq_false_iff_ne]; intro e; exact he (ext_toList e)
          clear he
          generalize (l.getD k U0).1 = s at *
          generalize (l.getD k U0).2 = q at *
          go_wp2
          exact ⟨⟨k + 1, by omega, by go_num, hd', hide ((unhide hb).alloc (unhide hb).size _)⟩, by simp [intOf]; omega⟩
      · have hr : r = 0 := by rw [← unhide HR]; exact ofV_none m l (fun j hj => unhide hd j (by omega))
        subst hr
        go_wp2
        go_ret
        exact ⟨rfl, unhide hb⟩
end Go.Proofs.YtnchgeiinkaefaaGreatDoor.Uses
end

section
/-
  Rows of a call's own whose tax is turned; rows and rests as functions of their place.
-/
namespace Go.Proofs.YtnchgeiinkaefaaGreatDoor.Tax
set_option linter.unusedVariables false
open Go.RowKit
open Evs (E E0 ER EC)
open BRow (R R0 RC ROwn)
open Ints (Cells)

theorem rown_blk {W W' : World} {b : Nat} {l : List R} (h : ROwn W b l) (hb : W'.heap[b]? = W.heap[b]?) (hs : b < W'.heap.size) : ROwn W' b l :=
  ⟨⟨hs, fun i hi => ⟨(World.cell?_of_block (w := W) hb).trans (h.1.2 i hi).1, (World.cell?_of_block (w := W) hb).trans (h.1.2 i hi).2.1, (World.cell?_of_block (w := W) hb).trans (h.1.2 i hi).2.2⟩⟩, fun j => (World.frozen?_of_block (w := W) hb).trans (h.2 j)⟩
theorem rown_off {W : World} {b g o : Nat} {l : List R} (h : ROwn W b l) (u : Value) (hg : g ≠ b) : ROwn (W.setCell ⟨g, o, none⟩ u) b l :=
  rown_blk h (Below.heap_setCell W ⟨g, o, none⟩ u b (by simp; omega)) (by simpa using h.1.1)
theorem cells_blk {W W' : World} {b : Nat} {l : List Int} (h : Cells W b 0 l) (hb : W'.heap[b]? = W.heap[b]?) (hs : b < W'.heap.size) : Cells W' b 0 l :=
  ⟨hs, fun i hi => ⟨(World.cell?_of_block (w := W) hb).trans (h.2 i hi).1, (World.frozen?_of_block (w := W) hb).trans (h.2 i hi).2⟩⟩
theorem cells_off {W : World} {b g o : Nat} {l : List Int} (h : Cells W b 0 l) (u : Value) (hg : g ≠ b) : Cells (W.setCell ⟨g, o, none⟩ u) b 0 l :=
  cells_blk h (Below.heap_setCell W ⟨g, o, none⟩ u b (by simp; omega)) (by simpa using h.1)
theorem cells_below {W W' : World} {b : Nat} {l : List Int} (h : Cells W b 0 l) (hb : Below W.heap.size W W') : Cells W' b 0 l :=
  cells_blk h (hb.block b h.1) (Nat.lt_of_lt_of_le h.1 hb.size)

/-- the tax of row k -/
theorem rown_tax {W : World} {b : Nat} {l : List R} (h : ROwn W b l) {k : Nat} (hk : k < l.length) (x : Int) :
    ROwn (W.setCell ⟨b, k * 3 + 2, none⟩ (.int .i64 x)) b (l.set k ((l.getD k R0).1, (l.getD k R0).2.1, x)) := by
  refine ⟨⟨by simpa using h.1.1, fun i hi => ?_⟩, fun j => by simpa [World.frozen?_setCell] using h.2 j⟩
  have hi' : i < l.length := by simpa using hi
  obtain ⟨c0, c1, c2⟩ := h.1.2 i hi'
  rw [Nat.zero_add] at c0 c1 c2
  rw [Nat.zero_add]
  by_cases e : i = k
  · subst e
    rw [List.getD_eq_getElem?_getD, List.getElem?_set_self hi']
    refine ⟨?_, ?_, ?_⟩
    · rw [World.cell?_setCell_other _ _ _ _ (by simp)]; exact c0
    · rw [World.cell?_setCell_other _ _ _ _ (by simp)]; exact c1
    · exact World.cell?_setCell_same _ _ _ c2
  · have e2 : (l.set k ((l.getD k R0).1, (l.getD k R0).2.1, x)).getD i R0 = l.getD i R0 := by
      rw [List.getD_eq_getElem?_getD, List.getElem?_set_ne (by omega), ← List.getD_eq_getElem?_getD]
    rw [e2]
    refine ⟨?_, ?_, ?_⟩
    · rw [World.cell?_setCell_other _ _ _ _ (by intro he; simp only [Addr.mk.injEq, and_true, true_and] at he; omega)]; exact c0
    · rw [World.cell?_setCell_other _ _ _ _ (by intro he; simp only [Addr.mk.injEq, and_true, true_and] at he; omega)]; exact c1
    · rw [World.cell?_setCell_other _ _ _ _ (by intro he; simp only [Addr.mk.injEq, and_true, true_and] at he; omega)]; exact c2

/-- what each row comes to, and owes -/
abbrev netF (l : List R) (j : Nat) : Int := (l.getD j R0).2.1
abbrev oldF (l : List R) (j : Nat) : Int := (l.getD j R0).2.2
/-- the rate of each line -/
abbrev rateF (t : List E) (j : Nat) : Int := (t.getD j E0).2.2
/-- the rows with these taxes -/
def rowsF (l : List R) (f : Nat → Int) : List R := (List.range l.length).map fun j => ((l.getD j R0).1, netF l j, f j)
theorem rowsF_len (l : List R) (f : Nat → Int) : (rowsF l f).length = l.length := by simp [rowsF]
theorem rowsF_get (l : List R) (f : Nat → Int) {j : Nat} (h : j < l.length) : (rowsF l f).getD j R0 = ((l.getD j R0).1, netF l j, f j) := by
  simp [rowsF, List.getD, h]
theorem rowsF_old (l : List R) : rowsF l (oldF l) = l := by
  apply List.ext_getElem (by simp [rowsF])
  intro i h1 h2
  simp [rowsF, netF, oldF, List.getD, h2]
theorem rowsF_congr (l : List R) {f g : Nat → Int} (h : ∀ j, j < l.length → f j = g j) : rowsF l f = rowsF l g := by
  unfold rowsF
  apply List.map_congr_left
  intro j hj
  rw [h j (List.mem_range.1 hj)]
theorem rowsF_set (l : List R) (f : Nat → Int) {k : Nat} (hk : k < l.length) (x : Int) : (rowsF l f).set k (((rowsF l f).getD k R0).1, ((rowsF l f).getD k R0).2.1, x) = rowsF l fun j => if j = k then x else f j := by
  rw [rowsF_get l f hk]
  apply List.ext_getElem (by simp [rowsF])
  intro i h1 h2
  by_cases e : i = k
  · subst e; simp [rowsF]
  · rw [List.getElem_set_ne (by omega)]; simp [rowsF, e]
theorem rowsF_rows (l : List R) (f g : Nat → Int) : rowsF (rowsF l f) g = rowsF l g := by
  apply List.ext_getElem (by simp [rowsF])
  intro i h1 h2
  have hi : i < l.length := by simpa [rowsF] using h2
  simp [rowsF, netF, List.getD, hi]

/-- the rests -/
def restL (n : Nat) (h : Nat → Int) : List Int := (List.range n).map h
theorem restL_len (n : Nat) (h : Nat → Int) : (restL n h).length = n := by simp [restL]
theorem restL_get {n : Nat} (h : Nat → Int) {j : Nat} (hj : j < n) : (restL n h).getD j 0 = h j := by simp [restL, List.getD, hj]
theorem restL_congr {n : Nat} {h g : Nat → Int} (e : ∀ j, j < n → h j = g j) : restL n h = restL n g := by
  unfold restL
  apply List.map_congr_left
  intro j hj
  rw [e j (List.mem_range.1 hj)]
theorem restL_set {n : Nat} (h : Nat → Int) {k : Nat} (hk : k < n) (x : Int) : (restL n h).set k x = restL n fun j => if j = k then x else h j := by
  apply List.ext_getElem (by simp [restL])
  intro i h1 h2
  by_cases e : i = k
  · subst e; simp [restL]
  · rw [List.getElem_set_ne (by omega)]; simp [restL, e]
theorem restL_zero (n : Nat) : List.replicate n (0 : Int) = restL n fun _ => 0 := by
  apply List.ext_getElem (by simp [restL])
  intro i h1 h2
  simp [restL]
end Go.Proofs.YtnchgeiinkaefaaGreatDoor.Tax
end

section
/-
  spec.l4First.
-/
namespace Go.Proofs.YtnchgeiinkaefaaGreatDoor.Tax
set_option linter.unusedVariables false
open Go.RowKit
open Evs (E E0 ER EC hide unhide below_trans below_drewN')

/-- f is the first line with the rate of line i -/
def IsFirst (rate : Nat → Int) (i f : Nat) : Prop := f ≤ i ∧ rate f = rate i ∧ ∀ j, j < f → rate j ≠ rate i

set_option maxHeartbeats 800000 in
theorem firstS (v : Value) (t : List E) (i : Nat) (w : World) (h : ER w v t) (hi : i < t.length) (hl : t.length ≤ 6) :
    Calls Tryz.prog 37 #[v, .int .i64 i] w fun e w' => ∃ f : Nat, e = .returned (.int .i64 f) ∧ IsFirst (rateF t) i f ∧ Below w.heap.size w w' := by
  rcases h with ⟨rfl, _⟩ | ⟨b, o, cap, rfl, hc⟩
  · simp at hi
  have HC := hide hc
  clear hc
  have j1 : (0 : Int) ≤ (i : Int) := by omega
  have j2 : (i : Int) < (t.length : Int) := by omega
  go_enter Tryz.func37, Tryz.ntmps37
  go_wp2
  go_loopw [5] (fun s wr => ∃ k : Nat, k ≤ i ∧ s = .int .i64 k ∧ Hid (∀ j, j < k → rateF t j ≠ rateF t i) ∧ Hid (Below w.heap.size w wr)) (fun s _ => i - (intOf s).toNat)
  case atStart => exact ⟨0, Nat.zero_le _, rfl, hide (fun j hj => by omega), hide (Below.refl _ _)⟩
  case round =>
    obtain ⟨k, hk, rfl, hd, hb⟩ := hrel
    by_cases hlt : k < i
    · have hc := (unhide HC).kept (unhide hb)
      have c1 := (hc.2 k (by omega)).2.2
      have c2 := (hc.2 i hi).2.2
      have k1 : (0 : Int) ≤ (k : Int) := by omega
      have k2 : (k : Int) < (t.length : Int) := by omega
      have HF : Hid (rateF t k = rateF t i → IsFirst (rateF t) i k) := hide (fun he => ⟨hk, he, unhide hd⟩)
      have HN : Hid (rateF t k ≠ rateF t i → ∀ j, j < k + 1 → rateF t j ≠ rateF t i) := hide (fun he j hj => by
        by_cases e : j = k
        · subst e; exact he
        · exact unhide hd j (by omega))
      clear hc hd
      by_cases he : rateF t k = rateF t i
      · have HF2 := hide (unhide HF he)
        have he2 : (t.getD k E0).2.2 = (t.getD i E0).2.2 := he
        rw [he2] at c1
        clear HF HN he he2
        generalize (t.getD i E0).2.2 = q at *
        go_wp2
        go_quiet (fail)
        go_wp2
        go_ret
        exact ⟨k, rfl, unhide HF2, below_drewN' (unhide hb) _⟩
      · have HN2 := hide (unhide HN he)
        have he2 : (((t.getD k E0).2.2 : Int) == (t.getD i E0).2.2) = false := beq_eq_false_iff_ne.2 he
        clear HF HN he
        generalize (t.getD i E0).2.2 = q at *
        generalize (t.getD k E0).2.2 = x at *
        go_wp2
        go_quiet (fail)
        go_wp2
        exact ⟨⟨k + 1, by omega, by go_num, HN2, hide (below_drewN' (unhide hb) _)⟩, by simp [intOf]; omega⟩
    · obtain rfl : k = i := by omega
      go_wp2
      go_ret
      exact ⟨k, rfl, ⟨Nat.le_refl _, rfl, unhide hd⟩, unhide hb⟩
end Go.Proofs.YtnchgeiinkaefaaGreatDoor.Tax
end

section
/-
  spec.l4Spread: the tax of one rate shared among its rows.
-/
namespace Go.Proofs.YtnchgeiinkaefaaGreatDoor.Tax
set_option linter.unusedVariables false
open Go.RowKit
open Evs (E E0 ER EC hide unhide below_trans below_drewN')
open BRow (R R0 RC ROwn)
open Ints (Cells)

/-- the taxes behind the first k rows -/
def tax1 (net old : Nat → Int) (g : Nat → Bool) (q : Int) (k j : Nat) : Int := if decide (j < k) && g j then partJ net q j else old j
def rest1 (net : Nat → Int) (g : Nat → Bool) (q : Int) (k j : Nat) : Int := if decide (j < k) && g j then restJ net q j + 1 else 0
/-- the taxes where p has got one more -/
def tax2 (net old : Nat → Int) (g p : Nat → Bool) (q : Int) (j : Nat) : Int := if g j then partJ net q j + (if p j then 1 else 0) else old j
def rest2 (net : Nat → Int) (g p : Nat → Bool) (q : Int) (j : Nat) : Int := if g j && !p j then restJ net q j + 1 else 0

theorem tax1_no {net old : Nat → Int} {g : Nat → Bool} {q : Int} {k : Nat} (h : g k = false) (j : Nat) : tax1 net old g q (k + 1) j = tax1 net old g q k j := by
  unfold tax1
  by_cases e : j = k
  · subst e; simp [h]
  · have : decide (j < k + 1) = decide (j < k) := by rw [Bool.eq_iff_iff]; simp; omega
    rw [this]
theorem rest1_no {net : Nat → Int} {g : Nat → Bool} {q : Int} {k : Nat} (h : g k = false) (j : Nat) : rest1 net g q (k + 1) j = rest1 net g q k j := by
  unfold rest1
  by_cases e : j = k
  · subst e; simp [h]
  · have : decide (j < k + 1) = decide (j < k) := by rw [Bool.eq_iff_iff]; simp; omega
    rw [this]
theorem tax1_yes {net old : Nat → Int} {g : Nat → Bool} {q : Int} {k : Nat} (h : g k = true) (j : Nat) : tax1 net old g q (k + 1) j = if j = k then partJ net q k else tax1 net old g q k j := by
  unfold tax1
  by_cases e : j = k
  · subst e; simp [h]
  · rw [if_neg e]
    have : decide (j < k + 1) = decide (j < k) := by rw [Bool.eq_iff_iff]; simp; omega
    rw [this]
theorem rest1_yes {net : Nat → Int} {g : Nat → Bool} {q : Int} {k : Nat} (h : g k = true) (j : Nat) : rest1 net g q (k + 1) j = if j = k then restJ net q k + 1 else rest1 net g q k j := by
  unfold rest1
  by_cases e : j = k
  · subst e; simp [h]
  · rw [if_neg e]
    have : decide (j < k + 1) = decide (j < k) := by rw [Bool.eq_iff_iff]; simp; omega
    rw [this]
theorem tax1_end (net old : Nat → Int) (g : Nat → Bool) (q : Int) {n j : Nat} (h : j < n) : tax1 net old g q n j = tax2 net old g (fun _ => false) q j := by
  unfold tax1 tax2; rw [decide_eq_true h]; simp
theorem rest1_end (net : Nat → Int) (g : Nat → Bool) (q : Int) {n j : Nat} (h : j < n) : rest1 net g q n j = rest2 net g (fun _ => false) q j := by
  unfold rest1 rest2; rw [decide_eq_true h]; simp
theorem tax2_next {net old : Nat → Int} {g p : Nat → Bool} {q : Int} {b : Nat} (hg : g b = true) (hp : p b = false) (j : Nat) : tax2 net old g (fun i => p i || decide (i = b)) q j = if j = b then tax2 net old g p q b + 1 else tax2 net old g p q j := by
  unfold tax2
  by_cases e : j = b
  · subst e; simp [hg, hp]
  · simp [e]
theorem rest2_next {net : Nat → Int} {g p : Nat → Bool} {q : Int} {b : Nat} (j : Nat) : rest2 net g (fun i => p i || decide (i = b)) q j = if j = b then 0 else rest2 net g p q j := by
  unfold rest2
  by_cases e : j = b
  · subst e; simp
  · simp [e]
/-- what is there when the loop ends -/
theorem spread_end {net rate old : Nat → Int} {n : Nat} {q S tax : Int} {p : Nat → Bool} (hP : Pk (grp rate q S) (restJ net q) n p)
    (h : (tax - sumG (grp rate q S) (partJ net q) n - ((List.range n).countP p : Int) ≤ 0 ∧ ((List.range n).countP p = 0 ∨ ((List.range n).countP p : Int) ≤ tax - sumG (grp rate q S) (partJ net q) n)) ∨ (All (grp rate q S) p n ∧ ((List.range n).countP p : Int) ≤ tax - sumG (grp rate q S) (partJ net q) n)) {j : Nat} (hj : j < n) :
    tax2 net old (grp rate q S) p q j = spreadF net rate old n q S tax j := by
  unfold tax2 spreadF
  cases hg : grp rate q S j
  · rfl
  have hi := hP.iff hj hg
  rw [if_pos rfl, if_pos rfl]
  congr 1
  rcases h with ⟨h1, h2⟩ | ⟨h1, h2⟩
  · rw [hi]
    by_cases e : cntG (grp rate q S) (restJ net q) n j < (List.range n).countP p
    · rw [decide_eq_true e, if_pos rfl, if_pos (by omega)]
    · rw [decide_eq_false e, if_neg (by simp), if_neg (by omega)]
  · have hp := h1 j hj hg
    rw [hp] at hi
    have := of_decide_eq_true hi.symm
    rw [hp, if_pos rfl, if_pos (by omega)]
end Go.Proofs.YtnchgeiinkaefaaGreatDoor.Tax
end
