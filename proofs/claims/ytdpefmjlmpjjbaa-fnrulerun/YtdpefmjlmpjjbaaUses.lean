/-
  Slices of uses (a text and a number) in memory, and the laws' own helpers on them: size, copy, compare.
-/
import Derived.Test.YtdpefmjlmpjjbaaProg
import Derived.WalkKit
import Derived.WalkLawsBesides
import Derived.Below
import Derived.Deep.QuietTactic
import Derived.BigQuiet
import Derived.Deep.OwnRows
import Derived.WalkMore
import Derived.Outline
import Derived.Deep.RegionHeld3
import Derived.Lib.Strings
namespace Go.Proofs.Ytdpefmjlmpjjbaa.Uses
set_option linter.unusedVariables false
open Go.RowKit

theorem hide {p : Prop} (h : p) : Hid p := h
theorem unhide {p : Prop} (h : Hid p) : p := h

abbrev U := ByteArray × Int
abbrev U0 : U := (ByteArray.empty, 0)

/-- from o on block b holds the uses l -/
def UC (W : World) (b o : Nat) (l : List U) : Prop := b < W.heap.size ∧ ∀ i, i < l.length → W.cell? ⟨b, o + i * 2, none⟩ = some (.string (l.getD i U0).1) ∧ W.cell? ⟨b, o + i * 2 + 1, none⟩ = some (.int .i64 (l.getD i U0).2)

/-- the slice v holds the uses l -/
def UR (W : World) (v : Value) (l : List U) : Prop :=
  (l = [] ∧ ∃ a c, v = .slice a 0 c) ∨ ∃ b o cap, v = .slice (some ⟨b, o, none⟩) l.length cap ∧ UC W b o l

theorem UC.kept {W W' : World} {b o : Nat} {l : List U} (h : UC W b o l) (hb : Below W.heap.size W W') : UC W' b o l :=
  ⟨Nat.lt_of_lt_of_le h.1 hb.size, fun i hi => ⟨(hb.cell (p := ⟨b, o + i * 2, none⟩) h.1).trans (h.2 i hi).1, (hb.cell (p := ⟨b, o + i * 2 + 1, none⟩) h.1).trans (h.2 i hi).2⟩⟩
theorem UR.kept {W W' : World} {v : Value} {l : List U} (h : UR W v l) (hb : Below W.heap.size W W') : UR W' v l := by
  rcases h with h | ⟨b, o, cap, rfl, hc⟩
  · exact .inl h
  · exact .inr ⟨b, o, cap, rfl, hc.kept hb⟩
theorem below_trans {w w1 w2 : World} (h : Below w.heap.size w w1) (k : Below w1.heap.size w1 w2) : Below w.heap.size w w2 := h.trans (k.mono h.size)

/-! ### The copy -/

/-- a row of uses of the call's own: block b holds l, nothing of it is frozen -/
def UOwn (W : World) (b : Nat) (l : List U) : Prop := UC W b 0 l ∧ ∀ j, W.frozen? ⟨b, j, none⟩ = false

theorem UOwn.set {W : World} {b : Nat} {l : List U} (h : UOwn W b l) {k : Nat} (hk : k < l.length) (x : U) :
    UOwn ((W.setCell ⟨b, 0 + k * 2, none⟩ (.string x.1)).setCell ⟨b, 0 + k * 2 + 1, none⟩ (.int .i64 x.2)) b (l.set k x) := by
  refine ⟨⟨by simpa using h.1.1, fun i hi => ?_⟩, fun j => by simpa [World.frozen?_setCell] using h.2 j⟩
  have hi' : i < l.length := by simpa using hi
  obtain ⟨c0, c1⟩ := h.1.2 i hi'
  by_cases e : i = k
  · subst e
    rw [List.getD_eq_getElem?_getD, List.getElem?_set_self hi']
    refine ⟨?_, ?_⟩
    · rw [World.cell?_setCell_other _ _ _ _ (by simp)]
      exact World.cell?_setCell_same _ _ _ c0
    · exact World.cell?_setCell_same _ _ _ (by rw [World.cell?_setCell_other _ _ _ _ (by simp)]; exact c1)
  · rw [World.cell?_setCell_other _ _ _ _ (by simp), World.cell?_setCell_other _ _ _ _ (by simp), World.cell?_setCell_other _ _ _ _ (by simp), World.cell?_setCell_other _ _ _ _ (by simp), c0, c1, List.getD_eq_getElem?_getD, List.getD_eq_getElem?_getD, List.getElem?_set_ne (by omega)]
    exact ⟨rfl, rfl⟩

theorem UOwn.kept {W W' : World} {b : Nat} {l : List U} (h : UOwn W b l) (hb : Below W.heap.size W W') : UOwn W' b l :=
  ⟨h.1.kept hb, fun j => (hb.frozen (p := ⟨b, j, none⟩) h.1.1).trans (h.2 j)⟩

theorem infoU : (Try.prog.info? 34).map (fun i => (i.zero, i.size, i.bytes)) = some (some (.agg #[.string ByteArray.empty, .int .i64 0]), 2, 24) := by kernel_rfl

theorem makeU (n : Nat) (hn : n ≤ 1048576) (w : World) : (Instr.makeSlice 27 (.int .i64 (n : Int)) (.int .i64 (n : Int))).run Try.prog w = .ok (.slice (some ⟨w.heap.size, 0, none⟩) n n) (w.alloc (.cells (madeCells #[.string ByteArray.empty, .int .i64 0] (n * 2)) 34)) := by
  obtain ⟨i, hi, h2⟩ := Option.map_eq_some_iff.1 infoU
  simp only [Prod.mk.injEq] at h2
  obtain ⟨hz, hs, hb⟩ := h2
  have := run_make (P := Try.prog) w 27 34 i _ Try.underlying27 hi hz .i64 .i64 n n (by omega) (by omega) (by rw [hb]; omega) (by omega)
  have e : (Value.agg #[.string ByteArray.empty, .int .i64 0]).cells = #[.string ByteArray.empty, .int .i64 0] := rfl
  rw [hs, e] at this
  simpa using this

theorem UOwn.made (w : World) (n : Nat) (t : TypeId) : UOwn (w.alloc (.cells (madeCells #[.string ByteArray.empty, .int .i64 0] (n * 2)) t)) w.heap.size (List.replicate n U0) := by
  have e1 := (MapKept.heap_alloc w (.cells (madeCells #[.string ByteArray.empty, .int .i64 0] (n * 2)) t)).1
  refine ⟨⟨by simp, fun i hi => ?_⟩, fun j => ?_⟩
  · have hi' : i < n := by simpa using hi
    have m0 : i * 2 % 2 = 0 := by omega
    have m1 : (i * 2 + 1) % 2 = 1 := by omega
    have l0 : i * 2 < n * 2 := by omega
    have l1 : i * 2 + 1 < n * 2 := by omega
    simp only [World.cell?]
    rw [e1]
    constructor
    · simp [madeCells, hi', l0, m0]
    · simp [madeCells, hi', l1, m1]
  · simp only [World.frozen?]
    rw [e1]; simp

theorem copy_step (l : List U) (k : Nat) (h : k < l.length) : (l.take k ++ List.replicate (l.length - k) U0).set k (l.getD k U0) = l.take (k + 1) ++ List.replicate (l.length - (k + 1)) U0 := by
  have e : l.length - k = (l.length - (k + 1)) + 1 := by omega
  rw [e, List.replicate_succ, List.set_append_right _ _ (by simp; omega)]
  have e2 : k - (l.take k).length = 0 := by simp; omega
  rw [e2, List.set_cons_zero]
  have e3 : l.take (k + 1) = l.take k ++ [l.getD k U0] := by rw [List.take_add_one, List.getElem?_eq_getElem h]; simp [List.getD, h]
  rw [e3, List.append_assoc]; rfl

theorem below_drewN' {B : Nat} {a w : World} (h : Below B a w) (k : Nat) : Below B a (w.drewN k) := ⟨h.os, h.tape, h.output, h.size, h.block⟩
theorem below_of_drew {B : Nat} {a w : World} (h : Below B a.drew w) : Below B a w := ⟨h.os, h.tape, h.output, h.size, h.block⟩
theorem below_of_drewN {B : Nat} {a w : World} {k : Nat} (h : Below B (a.drewN k) w) : Below B a w := ⟨h.os, h.tape, h.output, h.size, h.block⟩

/-! ### RuleOf -/

/-- how much of a meter was used -/
def ofV (m : ByteArray) : List U → Int
  | [] => 0
  | u :: us => if u.1 = m then u.2 else ofV m us

theorem ofV_hit (m : ByteArray) : ∀ (l : List U) (k : Nat), k < l.length → (∀ j, j < k → (l.getD j U0).1 ≠ m) → (l.getD k U0).1 = m → ofV m l = (l.getD k U0).2
  | [], k, h, _, _ => by simp at h
  | u :: us, 0, _, _, h => by simp only [List.getD_cons_zero] at h ⊢; simp [ofV, h]
  | u :: us, k + 1, hk, hj, h => by
    have h0 := hj 0 (by omega)
    simp only [List.getD_cons_zero] at h0
    simp only [List.getD_cons_succ] at h ⊢
    rw [ofV, if_neg h0]
    exact ofV_hit m us k (by simpa using hk) (fun j hj' => by have := hj (j + 1) (by omega); simpa using this) h
theorem ofV_none (m : ByteArray) : ∀ (l : List U), (∀ j, j < l.length → (l.getD j U0).1 ≠ m) → ofV m l = 0
  | [], _ => rfl
  | u :: us, hj => by
    have h0 := hj 0 (by simp)
    simp only [List.getD_cons_zero] at h0
    rw [ofV, if_neg h0]
    exact ofV_none m us (fun j hj' => by have := hj (j + 1) (by simp; omega); simpa using this)

theorem ext_toList {s t : ByteArray} (h : s.toList = t.toList) : s = t := by
  rw [Lib.toList_data, Lib.toList_data] at h
  cases s; cases t
  simp only at h
  rw [Array.toList_inj.1 h]

set_option maxHeartbeats 800000 in
/-- spec.RuleOf -/
theorem ofS (v : Value) (l : List U) (m : ByteArray) (w : World) (h : UR w v l) (hl : l.length ≤ 1048576) :
    Calls Try.prog 23 #[v, .string m] w fun e w' => e = .returned (.int .i64 (ofV m l)) ∧ Below w.heap.size w w' := by
  rcases h with ⟨rfl, a, c, rfl⟩ | ⟨b, o, cap, rfl, hc⟩
  · go_enter Try.func23, Try.ntmps23
    go_wp2
    refine wp_loop_rounds 1 ?_
    rw [rounds_succ]
    go_wp2
    go_ret
    exact ⟨rfl, Below.refl _ _⟩
  · have HC := hide hc; clear hc
    generalize hr : ofV m l = r
    have HR := hide hr; clear hr
    go_enter Try.func23, Try.ntmps23
    go_wp2
    go_loop [5] (fun i => ∃ k : Nat, k ≤ l.length ∧ i = .int .i64 k ∧ Hid (∀ j, j < k → (l.getD j U0).1 ≠ m)) (fun i => l.length - (intOf i).toNat)
    case atStart => exact ⟨0, Nat.zero_le _, rfl, hide (fun j hj => by omega)⟩
    case round =>
      obtain ⟨k, hk, rfl, hd⟩ := hrel
      by_cases hlt : k < l.length
      · obtain ⟨c0, c1⟩ := (unhide HC).2 k hlt
        by_cases he : (l.getD k U0).1 = m
        · have hr := (unhide HR).symm.trans (ofV_hit m l k hlt (unhide hd) he)
          rw [he] at c0
          rw [← hr] at c1
          clear he hr
          have hx : (m.toList == m.toList) = true := by simp
          go_wp2
          go_ret
          exact ⟨rfl, Below.refl _ _⟩
        · have hd' : Hid (∀ j, j < k + 1 → (l.getD j U0).1 ≠ m) := hide (fun j hj => by
            by_cases e : j < k
            · exact unhide hd j e
            · obtain rfl : j = k := by omega
              exact he)
          have hx : ((l.getD k U0).1.toList == m.toList) = false := by
            rw [beq_eq_false_iff_ne]; intro e; exact he (ext_toList e)
          clear he
          generalize (l.getD k U0).1 = s at *
          generalize (l.getD k U0).2 = q at *
          go_wp2
          exact ⟨⟨k + 1, by omega, by go_num, hd'⟩, by simp [intOf]; omega⟩
      · have hr : r = 0 := by rw [← unhide HR]; exact ofV_none m l (fun j hj => unhide hd j (by omega))
        subst hr
        go_wp2
        go_ret
        exact ⟨rfl, Below.refl _ _⟩

set_option maxHeartbeats 800000 in
/-- impl.RuleOf -/
theorem ofI (v : Value) (l : List U) (m : ByteArray) (w : World) (h : UR w v l) (hl : l.length ≤ 1048576) :
    Calls Try.prog 74 #[v, .string m] w fun e w' => e = .returned (.int .i64 (ofV m l)) ∧ Below w.heap.size w w' := by
  rcases h with ⟨rfl, a, c, rfl⟩ | ⟨b, o, cap, rfl, hc⟩
  · go_enter Try.func74, Try.ntmps74
    go_wp2
    refine wp_loop_rounds 1 ?_
    rw [rounds_succ]
    go_wp2
    go_ret
    exact ⟨rfl, Below.refl _ _⟩
  · have HC := hide hc; clear hc
    generalize hr : ofV m l = r
    have HR := hide hr; clear hr
    go_enter Try.func74, Try.ntmps74
    go_wp2
    go_loopw [9] (fun i wr => ∃ k : Nat, k ≤ l.length ∧ i = .int .i64 k ∧ Hid (∀ j, j < k → (l.getD j U0).1 ≠ m) ∧ Hid (Below w.heap.size w wr)) (fun i _ => l.length - (intOf i).toNat)
    case atStart => exact ⟨0, Nat.zero_le _, rfl, hide (fun j hj => by omega), hide (Below.refl _ _)⟩
    case round =>
      obtain ⟨k, hk, rfl, hd, hb⟩ := hrel
      by_cases hlt : k < l.length
      · obtain ⟨c0, c1⟩ := ((unhide HC).kept (unhide hb)).2 k hlt
        by_cases he : (l.getD k U0).1 = m
        · have hr := (unhide HR).symm.trans (ofV_hit m l k hlt (unhide hd) he)
          rw [he] at c0
          rw [← hr] at c1
          clear he hr
          have hx : (m.toList == m.toList) = true := by simp
          go_wp2
          go_ret
          exact ⟨rfl, (unhide hb).alloc (unhide hb).size _⟩
        · have hd' : Hid (∀ j, j < k + 1 → (l.getD j U0).1 ≠ m) := hide (fun j hj => by
            by_cases e : j < k
            · exact unhide hd j e
            · obtain rfl : j = k := by omega
              exact he)
          have hx : ((l.getD k U0).1.toList == m.toList) = false := by
            rw [beq_eq_false_iff_ne]; intro e; exact he (ext_toList e)
          clear he
          generalize (l.getD k U0).1 = s at *
          generalize (l.getD k U0).2 = q at *
          go_wp2
          exact ⟨⟨k + 1, by omega, by go_num, hd', hide ((unhide hb).alloc (unhide hb).size _)⟩, by simp [intOf]; omega⟩
      · have hr : r = 0 := by rw [← unhide HR]; exact ofV_none m l (fun j hj => unhide hd j (by omega))
        subst hr
        go_wp2
        go_ret
        exact ⟨rfl, unhide hb⟩
end Go.Proofs.Ytdpefmjlmpjjbaa.Uses
