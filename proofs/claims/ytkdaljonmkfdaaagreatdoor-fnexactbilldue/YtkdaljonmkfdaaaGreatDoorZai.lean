/-
  Texts of this proof laid together, in build order; each says of itself what it holds.
-/
import Derived.Test.YtkdaljonmkfdaaaGreatDoorProg
import Derived.WalkKit
import Derived.WalkLawsBesides
import Derived.Below
import Derived.Deep.QuietTactic
import Derived.BigQuiet
import Derived.Deep.OwnRows
import Derived.WalkMore
import Derived.Outline
import Derived.Deep.RegionHeld3
import Derived.Lib.Strings
import Derived.Test.YtkdaljonmkfdaaaGreatDoorZah
import Derived.Test.YtkdaljonmkfdaaaGreatDoorZaf
import Derived.Test.YtkdaljonmkfdaaaGreatDoorZaa
section
/-
  Rows of invoices (a text and two numbers) in memory, and the laws' own helpers on them: size, copy, compare.
-/
namespace Go.Proofs.YtkdaljonmkfdaaaGreatDoor.BRow
set_option linter.unusedVariables false
open Go.RowKit

theorem hide {p : Prop} (h : p) : Hid p := h
theorem unhide {p : Prop} (h : Hid p) : p := h

abbrev R := ByteArray × Int × Int
abbrev R0 : R := (ByteArray.empty, 0, 0)
/-- a row as a value -/
abbrev rV (e : R) : Value := .agg #[.string e.1, .int .i64 e.2.1, .int .i64 e.2.2]

/-- from o on block b holds the rows l -/
def RC (W : World) (b o : Nat) (l : List R) : Prop := b < W.heap.size ∧ ∀ i, i < l.length → W.cell? ⟨b, o + i * 3, none⟩ = some (.string (l.getD i R0).1) ∧ W.cell? ⟨b, o + i * 3 + 1, none⟩ = some (.int .i64 (l.getD i R0).2.1) ∧ W.cell? ⟨b, o + i * 3 + 2, none⟩ = some (.int .i64 (l.getD i R0).2.2)

/-- the slice v holds the rows l -/
def RR (W : World) (v : Value) (l : List R) : Prop :=
  (l = [] ∧ ∃ a c, v = .slice a 0 c) ∨ ∃ b o cap, v = .slice (some ⟨b, o, none⟩) l.length cap ∧ RC W b o l

theorem RC.kept {W W' : World} {b o : Nat} {l : List R} (h : RC W b o l) (hb : Below W.heap.size W W') : RC W' b o l :=
  ⟨Nat.lt_of_lt_of_le h.1 hb.size, fun i hi => ⟨(hb.cell (p := ⟨b, o + i * 3, none⟩) h.1).trans (h.2 i hi).1, (hb.cell (p := ⟨b, o + i * 3 + 1, none⟩) h.1).trans (h.2 i hi).2.1, (hb.cell (p := ⟨b, o + i * 3 + 2, none⟩) h.1).trans (h.2 i hi).2.2⟩⟩
theorem RR.kept {W W' : World} {v : Value} {l : List R} (h : RR W v l) (hb : Below W.heap.size W W') : RR W' v l := by
  rcases h with h | ⟨b, o, cap, rfl, hc⟩
  · exact .inl h
  · exact .inr ⟨b, o, cap, rfl, hc.kept hb⟩
theorem RR.slice {W : World} {v : Value} {l : List R} (h : RR W v l) : ∃ a c, v = .slice a l.length c := by
  rcases h with ⟨rfl, a, c, rfl⟩ | ⟨b, o, cap, rfl, _⟩
  · exact ⟨_, _, rfl⟩
  · exact ⟨_, _, rfl⟩
theorem below_trans {w w1 w2 : World} (h : Below w.heap.size w w1) (k : Below w1.heap.size w1 w2) : Below w.heap.size w w2 := h.trans (k.mono h.size)

/-- szBillRow -/
theorem szRow (s : ByteArray) (m : Int) (q n : Int) (w : World) (hu : s.size ≤ maxLen) (h0 : 0 ≤ n) (h1 : n ≤ 1048576) :
    Calls Tryz.prog 136 #[.agg #[.string s, .int .i64 m, .int .i64 q], .int .i64 n] w fun e w' => ∃ r : Int, e = .returned (.int .i64 r) ∧ -1 ≤ r ∧ r ≤ n ∧ Below w.heap.size w w' := by
  unfold maxLen at hu
  by_cases hn : n - s.size < 0
  · go_enter Tryz.func136, Tryz.ntmps136
    go_wp2
    go_ret
    exact ⟨_, rfl, by omega, by omega, (Below.refl _ _).alloc (Nat.le_refl _) _⟩
  · go_enter Tryz.func136, Tryz.ntmps136
    go_wp2
    go_ret
    exact ⟨_, rfl, by omega, by omega, (Below.refl _ _).alloc (Nat.le_refl _) _⟩

/-- szBillRowS -/
theorem szRows (v : Value) (l : List R) (n : Int) (w : World) (h : RR w v l) (hl : l.length ≤ maxLen) (hs : ∀ u ∈ l, u.1.size ≤ maxLen) (h0 : 0 ≤ n) (h1 : n ≤ 1048576) :
    Calls Tryz.prog 111 #[v, .int .i64 n] w fun e w' => ∃ r : Int, e = .returned (.int .i64 r) ∧ -1 ≤ r ∧ r ≤ n ∧ (0 ≤ r → l.length ≤ n) ∧ Below w.heap.size w w' := by
  have hs' := hs
  unfold maxLen at hl hs
  by_cases hneg : n - l.length < 0
  · obtain ⟨a, c, rfl⟩ := h.slice
    clear h
    go_enter Tryz.func111, Tryz.ntmps111
    go_wp2
    go_ret
    exact ⟨_, rfl, by omega, by omega, fun h => by omega, Below.refl _ _⟩
  rcases h with ⟨rfl, a, c, rfl⟩ | ⟨b, o, cap, rfl, hc⟩
  · go_enter Tryz.func111, Tryz.ntmps111
    go_wp2
    refine wp_loop_rounds 1 ?_
    rw [rounds_succ]
    go_wp2
    go_ret
    exact ⟨_, rfl, by omega, by omega, fun h => by simpa using h0, Below.refl _ _⟩
  · have HC := hide hc; clear hc
    go_enter Tryz.func111, Tryz.ntmps111
    go_wp2
    go_loopw [1, 5] (fun t i wr => ∃ (k : Nat) (q : Int), k ≤ l.length ∧ i = .int .i64 k ∧ t = .int .i64 q ∧ 0 ≤ q ∧ q ≤ n ∧ Hid (Below w.heap.size w wr)) (fun _ i _ => l.length - (intOf i).toNat)
    case atStart => exact ⟨0, _, by omega, rfl, rfl, by omega, by omega, hide (Below.refl _ _)⟩
    case round =>
      obtain ⟨k, q, hk, rfl, rfl, hq0, hq1, hb⟩ := hrel
      by_cases hlt : k < l.length
      · have hc := ((unhide HC).kept (unhide hb)).2 k hlt
        obtain ⟨c1, c2, c3⟩ := hc
        have hsz : (l.getD k R0).1.size ≤ maxLen := hs' _ (by simp [List.getD, hlt])
        generalize (l.getD k R0).1 = s at *
        generalize (l.getD k R0).2.1 = m at *
        generalize (l.getD k R0).2.2 = z at *
        go_wp2_with (fail)
        refine (szRow s m z q wr hsz hq0 (by omega)).mono ?_
        rintro e w1 ⟨r, rfl, r1, r2, hb1⟩
        have HB : Hid (Below w.heap.size w w1) := hide (below_trans (unhide hb) hb1)
        clear hb hb1
        by_cases hr : r < 0
        · go_wp2
          go_ret
          exact ⟨_, rfl, by omega, by omega, fun h => by omega, unhide HB⟩
        · go_wp2
          exact ⟨⟨k + 1, r, by omega, by go_num, rfl, by omega, by omega, HB⟩, by simp [intOf]; omega⟩
      · go_wp2
        go_ret
        exact ⟨_, rfl, by omega, by omega, fun h => by omega, unhide hb⟩

/-! ### The copy -/

/-- a row of rows of the call's own: block b holds l, nothing of it is frozen -/
def ROwn (W : World) (b : Nat) (l : List R) : Prop := RC W b 0 l ∧ ∀ j, W.frozen? ⟨b, j, none⟩ = false

/-- the slice v holds the rows l in a block of its own, not below B -/
def RN (B : Nat) (W : World) (v : Value) (l : List R) : Prop :=
  (l = [] ∧ ∃ a c, v = .slice a 0 c) ∨ ∃ b cap, v = .slice (some ⟨b, 0, none⟩) l.length cap ∧ (B ≤ b ∧ l.length ≤ cap) ∧ ROwn W b l
theorem RN.er {B : Nat} {W : World} {v : Value} {l : List R} (h : RN B W v l) : RR W v l := by
  rcases h with h | ⟨b, cap, rfl, _, hc⟩
  · exact .inl h
  · exact .inr ⟨b, 0, cap, rfl, hc.1⟩

theorem ROwn.set {W : World} {b : Nat} {l : List R} (h : ROwn W b l) {k : Nat} (hk : k < l.length) (x : R) :
    ROwn (((W.setCell ⟨b, 0 + k * 3, none⟩ (.string x.1)).setCell ⟨b, 0 + k * 3 + 1, none⟩ (.int .i64 x.2.1)).setCell ⟨b, 0 + k * 3 + 2, none⟩ (.int .i64 x.2.2)) b (l.set k x) := by
  refine ⟨⟨by simpa using h.1.1, fun i hi => ?_⟩, fun j => by simpa [World.frozen?_setCell] using h.2 j⟩
  have hi' : i < l.length := by simpa using hi
  obtain ⟨c0, c1, c2⟩ := h.1.2 i hi'
  by_cases e : i = k
  · subst e
    rw [List.getD_eq_getElem?_getD, List.getElem?_set_self hi']
    refine ⟨?_, ?_, ?_⟩
    · rw [World.cell?_setCell_other _ _ _ _ (by simp), World.cell?_setCell_other _ _ _ _ (by simp)]
      exact World.cell?_setCell_same _ _ _ c0
    · rw [World.cell?_setCell_other _ _ _ _ (by simp)]
      exact World.cell?_setCell_same _ _ _ (by rw [World.cell?_setCell_other _ _ _ _ (by simp)]; exact c1)
    · exact World.cell?_setCell_same _ _ _ (by rw [World.cell?_setCell_other _ _ _ _ (by simp), World.cell?_setCell_other _ _ _ _ (by simp)]; exact c2)
  · have d : ∀ (a b' : Nat), a < 3 → b' < 3 → (⟨b, 0 + k * 3 + b', none⟩ : Addr) ≠ ⟨b, 0 + i * 3 + a, none⟩ := fun a b' ha hb he => by
      simp only [Addr.mk.injEq, and_true, true_and] at he; omega
    have d00 := d 0 0 (by omega) (by omega)
    have d01 := d 0 1 (by omega) (by omega)
    have d02 := d 0 2 (by omega) (by omega)
    have d10 := d 1 0 (by omega) (by omega)
    have d20 := d 2 0 (by omega) (by omega)
    simp only [Nat.add_zero] at d00 d01 d02 d10 d20
    rw [World.cell?_setCell_other _ _ _ _ d02, World.cell?_setCell_other _ _ _ _ d01, World.cell?_setCell_other _ _ _ _ d00, World.cell?_setCell_other _ _ _ _ (d 1 2 (by omega) (by omega)), World.cell?_setCell_other _ _ _ _ (d 1 1 (by omega) (by omega)), World.cell?_setCell_other _ _ _ _ d10, World.cell?_setCell_other _ _ _ _ (d 2 2 (by omega) (by omega)), World.cell?_setCell_other _ _ _ _ (d 2 1 (by omega) (by omega)), World.cell?_setCell_other _ _ _ _ d20, c0, c1, c2, List.getD_eq_getElem?_getD, List.getD_eq_getElem?_getD, List.getElem?_set_ne (by omega)]
    exact ⟨rfl, rfl, rfl⟩

theorem ROwn.kept {W W' : World} {b : Nat} {l : List R} (h : ROwn W b l) (hb : Below W.heap.size W W') : ROwn W' b l :=
  ⟨h.1.kept hb, fun j => (hb.frozen (p := ⟨b, j, none⟩) h.1.1).trans (h.2 j)⟩
theorem RN.kept {B : Nat} {W W' : World} {v : Value} {l : List R} (h : RN B W v l) (hb : Below W.heap.size W W') : RN B W' v l := by
  rcases h with h | ⟨b, cap, rfl, h1, hc⟩
  · exact .inl h
  · exact .inr ⟨b, cap, rfl, h1, hc.kept hb⟩
theorem RN.low {B B' : Nat} {W : World} {v : Value} {l : List R} (h : RN B W v l) (hb : B' ≤ B) : RN B' W v l := by
  rcases h with h | ⟨b, cap, rfl, h1, hc⟩
  · exact .inl h
  · exact .inr ⟨b, cap, rfl, ⟨Nat.le_trans hb h1.1, h1.2⟩, hc⟩

/-- there is room for what it holds -/
def capOk (v : Value) : Prop := ∀ a n c, v = .slice a n c → n ≤ c
theorem RN.cap {B : Nat} {W : World} {v : Value} {l : List R} (h : RN B W v l) : capOk v := by
  intro a n c hv
  rcases h with ⟨_, a', c', rfl⟩ | ⟨b, cap, rfl, h1, _⟩
  · simp only [Value.slice.injEq] at hv; omega
  · simp only [Value.slice.injEq] at hv; omega

theorem infoR : (Tryz.prog.info? 124).map (fun i => (i.zero, i.size, i.bytes)) = some (some (.agg #[.string ByteArray.empty, .int .i64 0, .int .i64 0]), 3, 32) := by kernel_rfl

theorem makeR (n : Nat) (hn : n ≤ 1048576) (w : World) : (Instr.makeSlice 65 (.int .i64 (n : Int)) (.int .i64 (n : Int))).run Tryz.prog w = .ok (.slice (some ⟨w.heap.size, 0, none⟩) n n) (w.alloc (.cells (madeCells #[.string ByteArray.empty, .int .i64 0, .int .i64 0] (n * 3)) 124)) := by
  obtain ⟨i, hi, h2⟩ := Option.map_eq_some_iff.1 infoR
  simp only [Prod.mk.injEq] at h2
  obtain ⟨hz, hs, hb⟩ := h2
  have := run_make (P := Tryz.prog) w 65 124 i _ Tryz.underlying65 hi hz .i64 .i64 n n (by omega) (by omega) (by rw [hb]; omega) (by omega)
  have e : (Value.agg #[.string ByteArray.empty, .int .i64 0, .int .i64 0]).cells = #[.string ByteArray.empty, .int .i64 0, .int .i64 0] := rfl
  rw [hs, e] at this
  simpa using this

theorem ROwn.made (w : World) (n : Nat) (t : TypeId) : ROwn (w.alloc (.cells (madeCells #[.string ByteArray.empty, .int .i64 0, .int .i64 0] (n * 3)) t)) w.heap.size (List.replicate n R0) := by
  have e1 := (MapKept.heap_alloc w (.cells (madeCells #[.string ByteArray.empty, .int .i64 0, .int .i64 0] (n * 3)) t)).1
  refine ⟨⟨by simp, fun i hi => ?_⟩, fun j => ?_⟩
  · have hi' : i < n := by simpa using hi
    have m0 : i * 3 % 3 = 0 := by omega
    have m1 : (i * 3 + 1) % 3 = 1 := by omega
    have m2 : (i * 3 + 2) % 3 = 2 := by omega
    have l0 : i * 3 < n * 3 := by omega
    have l1 : i * 3 + 1 < n * 3 := by omega
    have l2 : i * 3 + 2 < n * 3 := by omega
    simp only [World.cell?]
    rw [e1]
    refine ⟨?_, ?_, ?_⟩
    · simp [madeCells, hi', l0, m0]
    · simp [madeCells, hi', l1, m1]
    · simp [madeCells, hi', l2, m2]
  · simp only [World.frozen?]
    rw [e1]; simp

theorem copy_step (l : List R) (k : Nat) (h : k < l.length) : (l.take k ++ List.replicate (l.length - k) R0).set k (l.getD k R0) = l.take (k + 1) ++ List.replicate (l.length - (k + 1)) R0 := by
  have e : l.length - k = (l.length - (k + 1)) + 1 := by omega
  rw [e, List.replicate_succ, List.set_append_right _ _ (by simp; omega)]
  have e2 : k - (l.take k).length = 0 := by simp; omega
  rw [e2, List.set_cons_zero]
  have e3 : l.take (k + 1) = l.take k ++ [l.getD k R0] := by rw [List.take_add_one, List.getElem?_eq_getElem h]; simp [List.getD, h]
  rw [e3, List.append_assoc]; rfl

theorem toRow (s : ByteArray) (m : Int) (q : Int) (w : World) :
    Calls Tryz.prog 137 #[.agg #[.string s, .int .i64 m, .int .i64 q]] w fun e w' => e = .returned (.agg #[.string s, .int .i64 m, .int .i64 q]) ∧ Below w.heap.size w w' := by
  go_enter Tryz.func137, Tryz.ntmps137
  go_wp2
  exact bodyPost_ret (v := .agg #[.string s, .int .i64 m, .int .i64 q]) (by simp [results, Tryz.results137, go_sem]) rfl ⟨rfl, ((((Below.refl _ _).alloc (Nat.le_refl _) _).alloc (by simp) _).alloc (by simp; omega) _)⟩

set_option maxHeartbeats 800000 in
theorem toRows (v : Value) (l : List R) (w : World) (h : RR w v l) (hl : l.length ≤ 1048576) :
    Calls Tryz.prog 113 #[v] w fun e w' => ∃ v', e = .returned v' ∧ RN w.heap.size w' v' l ∧ Below w.heap.size w w' := by
  have hmk := makeR l.length hl
  rcases h with ⟨rfl, a, c, rfl⟩ | ⟨b, o, cap, rfl, h2⟩
  · clear hmk hl
    have hmk0 : ∀ w : World, (Instr.makeSlice 65 (.int .i64 0) (.int .i64 0)).run Tryz.prog w = .ok (.slice (some ⟨w.heap.size, 0, none⟩) 0 0) (w.alloc (.cells #[] 124)) := fun w => by kernel_rfl
    go_enter Tryz.func113, Tryz.ntmps113
    go_wp2
    refine wp_loop_rounds 1 ?_
    rw [rounds_succ]
    go_wp2
    go_ret
    exact ⟨_, rfl, .inl ⟨rfl, _, _, rfl⟩, (Below.refl _ _).alloc (Nat.le_refl _) _⟩
  · have H3 := hide h2; clear h2
    have hbs := (unhide H3).1
    go_enter Tryz.func113, Tryz.ntmps113
    go_wp2
    go_loopw [4] (fun i wr => ∃ k : Nat, k ≤ l.length ∧ i = .int .i64 k ∧ Hid (ROwn wr w.heap.size (l.take k ++ List.replicate (l.length - k) R0)) ∧ Below w.heap.size w wr) (fun i _ => l.length - (intOf i).toNat)
    case atStart => exact ⟨0, Nat.zero_le _, rfl, by show ROwn _ _ _; simpa using ROwn.made w l.length _, (Below.refl _ _).alloc (Nat.le_refl _) _⟩
    case round =>
      obtain ⟨k, hk, rfl, hd, hb⟩ := hrel
      by_cases hlt : k < l.length
      · obtain ⟨c0, c1, c2⟩ := ((unhide H3).kept hb).2 k hlt
        have HK : Hid (∀ w1, Below wr.heap.size wr w1 → ROwn w1 w.heap.size (l.take k ++ List.replicate (l.length - k) R0)) := hide (fun w1 h1 => (unhide hd).kept h1)
        have HS : Hid (∀ w1, ROwn w1 w.heap.size (l.take k ++ List.replicate (l.length - k) R0) → ROwn (((w1.setCell ⟨w.heap.size, k * 3, none⟩ (.string (l.getD k R0).1)).setCell ⟨w.heap.size, k * 3 + 1, none⟩ (.int .i64 (l.getD k R0).2.1)).setCell ⟨w.heap.size, k * 3 + 2, none⟩ (.int .i64 (l.getD k R0).2.2)) w.heap.size (l.take (k + 1) ++ List.replicate (l.length - (k + 1)) R0)) := hide (fun w1 h1 => by
          have := h1.set (k := k) (by simp; omega) (l.getD k R0)
          rwa [copy_step l k hlt, Nat.zero_add] at this)
        have HB := hide hb
        have hk2 : k < (l.take k ++ List.replicate (l.length - k) R0).length := by simp; omega
        clear hb hd
        generalize l.getD k R0 = x at *
        obtain ⟨s, m, q⟩ := x
        generalize hL : l.take k ++ List.replicate (l.length - k) R0 = L at *
        have HL := hide hL
        clear hL
        simp only at c0 c1 c2 HS
        go_wp2_with (fail)
        refine (toRow s m q wr).mono ?_
        rintro e w1 ⟨rfl, hb1⟩
        have HX := hide (unhide HS w1 (unhide HK w1 hb1))
        obtain ⟨⟨_, hcs⟩, hfz⟩ := unhide HK w1 hb1
        obtain ⟨d0, d1, d2⟩ := hcs k hk2
        have f0 := hfz (k * 3)
        have f1 := hfz (k * 3 + 1)
        have f2 := hfz (k * 3 + 2)
        rw [Nat.zero_add] at d0 d1 d2
        clear hcs hfz
        have HB1 : Hid (Below w.heap.size w w1) := hide (below_trans (unhide HB) hb1)
        clear hb1 HB
        generalize (L.getD k R0).1 = y0 at *
        generalize (L.getD k R0).2.1 = y1 at *
        generalize (L.getD k R0).2.2 = y2 at *
        go_wp2
        exact ⟨⟨k + 1, by omega, by go_num, HX, (((unhide HB1).setCell (Nat.le_refl _) _).setCell (Nat.le_refl _) _).setCell (Nat.le_refl _) _⟩, by simp [intOf]; omega⟩
      · obtain rfl : k = l.length := by omega
        go_wp2
        go_ret
        refine ⟨_, rfl, .inr ⟨w.heap.size, l.length, rfl, ⟨Nat.le_refl _, Nat.le_refl _⟩, ?_⟩, hb⟩
        have := unhide hd
        simpa using this

/-- eqBillRow, of one and the same -/
theorem eqRow (s : ByteArray) (m : Int) (p : Int) (w : World) :
    Calls Tryz.prog 138 #[.agg #[.string s, .int .i64 m, .int .i64 p], .agg #[.string s, .int .i64 m, .int .i64 p]] w fun e w' => e = .returned (.bool true) ∧ Below w.heap.size w w' := by
  have h1 : (!s.toList == s.toList) = false := by simp
  have h3 : (m != m) = false := by simp
  have h2 : (p != p) = false := by simp
  go_enter Tryz.func138, Tryz.ntmps138
  go_wp2
  go_ret
  exact ⟨rfl, ((Below.refl _ _).alloc (Nat.le_refl _) _).alloc (by simp) _⟩

theorem below_drewN' {B : Nat} {a w : World} (h : Below B a w) (k : Nat) : Below B a (w.drewN k) := ⟨h.os, h.tape, h.output, h.size, h.block⟩
theorem below_of_drew {B : Nat} {a w : World} (h : Below B a.drew w) : Below B a w := ⟨h.os, h.tape, h.output, h.size, h.block⟩
theorem below_of_drewN {B : Nat} {a w : World} {k : Nat} (h : Below B (a.drewN k) w) : Below B a w := ⟨h.os, h.tape, h.output, h.size, h.block⟩

set_option maxHeartbeats 800000 in
theorem eqRows (v v' : Value) (l : List R) (w : World) (h : RR w v l) (h' : RR w v' l) (hl : l.length ≤ 1048576) :
    Calls Tryz.prog 120 #[v, v'] w fun e w' => e = .returned (.bool true) ∧ Below w.heap.size w w' := by
  have hn : (((l.length : Int)) != (l.length : Int)) = false := by simp
  by_cases h0 : l.length = 0
  · obtain rfl : l = [] := List.length_eq_zero_iff.1 h0
    obtain ⟨a, c, rfl⟩ := h.slice
    obtain ⟨a', c', rfl⟩ := h'.slice
    clear h h' h0 hl hn
    go_enter Tryz.func120, Tryz.ntmps120
    go_wp2
    refine wp_loop_rounds 1 ?_
    rw [rounds_succ]
    go_wp2
    go_ret
    exact ⟨rfl, Below.refl _ _⟩
  · rcases h with ⟨rfl, _⟩ | ⟨b, o, cap, rfl, hc⟩
    · simp at h0
    rcases h' with ⟨rfl, _⟩ | ⟨b', o', cap', rfl, hc'⟩
    · simp at h0
    have HC := hide hc; have HC' := hide hc'
    have hbs := hc.1
    have hbs' := hc'.1
    clear hc hc' h0
    go_enter Tryz.func120, Tryz.ntmps120
    go_wp2
    go_loopw [5] (fun i wr => ∃ k : Nat, k ≤ l.length ∧ i = .int .i64 k ∧ Hid (Below w.heap.size w wr)) (fun i _ => l.length - (intOf i).toNat)
    case atStart => exact ⟨0, Nat.zero_le _, rfl, hide (Below.refl _ _)⟩
    case round =>
      obtain ⟨k, hk, rfl, hb⟩ := hrel
      by_cases hlt : k < l.length
      · obtain ⟨c0, c1, c2⟩ := ((unhide HC).kept (unhide hb)).2 k hlt
        obtain ⟨d0, d1, d2⟩ := ((unhide HC').kept (unhide hb)).2 k hlt
        have i1 : (0 : Int) ≤ (k : Int) := by omega
        have i2 : (k : Int) < (l.length : Int) := by omega
        have z1 : b < wr.heap.size := Nat.lt_of_lt_of_le hbs (unhide hb).size
        have z2 : b' < wr.heap.size := Nat.lt_of_lt_of_le hbs' (unhide hb).size
        generalize l.getD k R0 = x at *
        obtain ⟨s, m, q⟩ := x
        simp only at c0 c1 c2 d0 d1 d2
        go_wp2
        go_region_held3 (fun w2 => w2.cell? ⟨b, o + k * 3, none⟩ = some (.string s) ∧ w2.cell? ⟨b, o + k * 3 + 1, none⟩ = some (.int .i64 m) ∧ w2.cell? ⟨b, o + k * 3 + 2, none⟩ = some (.int .i64 q) ∧ w2.cell? ⟨b', o' + k * 3, none⟩ = some (.string s) ∧ w2.cell? ⟨b', o' + k * 3 + 1, none⟩ = some (.int .i64 m) ∧ w2.cell? ⟨b', o' + k * 3 + 2, none⟩ = some (.int .i64 q)) (go_keep) (first | (go_at_call 138; refine (eqRow s m q _).mono ?_; rintro e w1 ⟨rfl, hb1⟩; have q1 := hb1.cell (p := ⟨b, o + k * 3, none⟩) z1; have q2 := hb1.cell (p := ⟨b, o + k * 3 + 1, none⟩) z1; have q5 := hb1.cell (p := ⟨b, o + k * 3 + 2, none⟩) z1; have q3 := hb1.cell (p := ⟨b', o' + k * 3, none⟩) z2; have q4 := hb1.cell (p := ⟨b', o' + k * 3 + 1, none⟩) z2; have q6 := hb1.cell (p := ⟨b', o' + k * 3 + 2, none⟩) z2))
        have HB : Hid (Below w.heap.size w w1) := hide (below_trans (unhide hb) (below_of_drew hb1))
        clear hb1 hb q1 q2 q3 q4 q5 q6
        go_wp2
        exact ⟨⟨k + 1, by omega, by go_num, HB⟩, by simp [intOf]; omega⟩
      · go_wp2
        go_ret
        exact ⟨rfl, unhide hb⟩
end Go.Proofs.YtkdaljonmkfdaaaGreatDoor.BRow
end

section
/-
  Rows that are right: impl.rowRight, impl.rightInOrder at rows, impl.rowsRight.
-/
namespace Go.Proofs.YtkdaljonmkfdaaaGreatDoor.Bill
set_option linter.unusedVariables false
open Go.RowKit RegIn
open Evs (hide unhide below_trans below_drewN' ltS)
open BRow (R R0 RR RC)
open Kinds (nameB nameI)

/-- an amount not below 0 -/
def unitB (n : Int) : Bool := decide (0 ≤ n) && Coin.okB n
/-- whether a row is right -/
def rowB (x : R) : Bool := nameB x.1 && unitB x.2.1 && unitB x.2.2

/-- impl.billUnits -/
theorem unitI (n : Int) (w : World) : Calls Tryz.prog 44 #[.int .i64 n] w fun x w' => x = .returned (.bool (unitB n)) ∧ w' = w := by
  by_cases h : 0 ≤ n
  · have e : unitB n = Coin.okB n := by unfold unitB; rw [decide_eq_true h]; rfl
    rw [e]
    go_enter Tryz.func44, Tryz.ntmps44
    go_wp2_with (first | (go_at_call 42; refine (Coin.okI _ _).mono ?_; rintro e w' ⟨rfl, rfl⟩) | fail)
    go_ret
    exact ⟨rfl, rfl⟩
  · have e : unitB n = false := by unfold unitB; rw [decide_eq_false h]; rfl
    rw [e]
    go_enter Tryz.func44, Tryz.ntmps44
    go_wp2_with (fail)
    go_ret
    exact ⟨rfl, rfl⟩

set_option maxHeartbeats 1000000 in
/-- impl.rowRight -/
theorem rowI (s : ByteArray) (m q : Int) (W : World) (h1 : s.size ≤ maxLen) : Calls Tryz.prog 118 #[.agg #[.string s, .int .i64 m, .int .i64 q]] W fun x w' => x = .returned (.bool (rowB (s, m, q))) ∧ Below W.heap.size W w' := by
  generalize hr : rowB (s, m, q) = r
  have HR : Hid ((nameB s && unitB m && unitB q) = r) := hide hr
  clear hr
  go_enter Tryz.func118, Tryz.ntmps118
  go_wp2_with (fail)
  refine (nameI s _ h1).mono ?_
  rintro x w1 ⟨rfl, hb1⟩
  obtain ⟨q1, hB, hz1⟩ := Boxes.box1 hb1
  obtain ⟨c0, _⟩ := q1 0 _ rfl
  obtain ⟨c1, _⟩ := q1 1 _ rfl
  obtain ⟨c2, _⟩ := q1 2 _ rfl
  have HB := hide hB
  clear hb1 hB q1
  cases hn : nameB s
  · have hr : r = false := by rw [← unhide HR, hn]; rfl
    subst hr
    go_wp2_with (fail)
    go_ret
    exact ⟨rfl, unhide HB⟩
  · cases hm : unitB m
    · have hr : r = false := by rw [← unhide HR, hn, hm]; rfl
      subst hr
      go_wp2_with (first | (go_at_call 44; refine (unitI m _).mono ?_; rintro e w' ⟨rfl, hw⟩; subst hw; rw [hm]) | fail)
      go_ret
      exact ⟨rfl, unhide HB⟩
    · have hr : r = unitB q := by rw [← unhide HR, hn, hm]; rfl
      subst hr
      go_wp2_with (fail)
      refine (unitI m _).mono ?_
      rintro e w' ⟨rfl, hw⟩
      subst hw
      rw [hm]
      go_wp2_with (fail)
      refine (unitI q _).mono ?_
      rintro e w' ⟨rfl, hw⟩
      subst hw
      go_wp2_with (fail)
      go_ret
      exact ⟨rfl, unhide HB⟩

def badR (l : List R) (i : Nat) : Bool := !rowB (l.getD i R0) || (decide (0 < i) && !ltS (l.getD (i - 1) R0).1 (l.getD i R0).1)
/-- rows are right -/
def okR (l : List R) : Bool := decide (l.length ≤ 6) && (List.range l.length).all fun i => !badR l i
theorem okR_long {l : List R} (h : 6 < l.length) : okR l = false := by unfold okR; rw [decide_eq_false (by omega)]; rfl
theorem okR_bad {l : List R} {k : Nat} (hk : k < l.length) (h : badR l k = true) : okR l = false := by
  have : ((List.range l.length).all fun i => !badR l i) = false := by
    rw [List.all_eq_false]
    exact ⟨k, by simpa using hk, by simp [h]⟩
  unfold okR; rw [this]; simp
theorem okR_true {l : List R} (h : l.length ≤ 6) (hl : ∀ i, i < l.length → badR l i = false) : okR l = true := by
  have : ((List.range l.length).all fun i => !badR l i) = true := by
    rw [List.all_eq_true]
    intro i hi
    rw [hl i (by simpa using hi)]; rfl
  unfold okR; rw [this, decide_eq_true h]; rfl
theorem badR_next {l : List R} {k : Nat} (h : ∀ j, j < k → badR l j = false) (hk : badR l k = false) : ∀ j, j < k + 1 → badR l j = false := fun j hj => by
  by_cases e : j < k
  · exact h j e
  · obtain rfl : j = k := by omega
    exact hk

/-- the worlds of a round: the round's own row at B, the one ahead of it at p in block b -/
def SWR (w : World) (B b p : Nat) (s : ByteArray) (m q : Int) (t : ByteArray) (m' q' : Int) (w2 : World) : Prop :=
  w2.cell? ⟨B, 0, none⟩ = some (.string s) ∧ w2.cell? ⟨B, 1, none⟩ = some (.int .i64 m) ∧ w2.cell? ⟨B, 2, none⟩ = some (.int .i64 q) ∧ w2.cell? ⟨b, p, none⟩ = some (.string t) ∧ w2.cell? ⟨b, p + 1, none⟩ = some (.int .i64 m') ∧ w2.cell? ⟨b, p + 2, none⟩ = some (.int .i64 q') ∧ B < w2.heap.size ∧ b < w2.heap.size ∧ Below w.heap.size w w2
theorem SWR.kept {w : World} {B b p : Nat} {s : ByteArray} {m q : Int} {t : ByteArray} {m' q' : Int} {w2 w3 : World} (h : SWR w B b p s m q t m' q' w2) (hb : Below w2.heap.size w2 w3) : SWR w B b p s m q t m' q' w3 := by
  obtain ⟨a1, a2, a3, a4, a5, a6, a7, a8, a9⟩ := h
  exact ⟨(hb.cell (p := ⟨B, 0, none⟩) a7).trans a1, (hb.cell (p := ⟨B, 1, none⟩) a7).trans a2, (hb.cell (p := ⟨B, 2, none⟩) a7).trans a3, (hb.cell (p := ⟨b, p, none⟩) a8).trans a4, (hb.cell (p := ⟨b, p + 1, none⟩) a8).trans a5, (hb.cell (p := ⟨b, p + 2, none⟩) a8).trans a6, Nat.lt_of_lt_of_le a7 hb.size, Nat.lt_of_lt_of_le a8 hb.size, below_trans a9 hb⟩

theorem calledR (s : ByteArray) (m q : Int) (W : World) : Calls Tryz.prog 119 #[.agg #[.string s, .int .i64 m, .int .i64 q]] W fun x w' => x = .returned (.string s) ∧ Below W.heap.size W w' := by
  go_enter Tryz.func119, Tryz.ntmps119
  go_wp2
  go_ret
  exact ⟨rfl, (Below.refl _ _).alloc (Nat.le_refl _) _⟩

set_option maxHeartbeats 2000000 in
/-- impl.rightInOrder at rows -/
theorem ordR (v : Value) (l : List R) (w : World) (h : RR w v l) (hl : l.length ≤ 1048576) (hs : ∀ u ∈ l, u.1.size ≤ maxLen) :
    Calls Tryz.prog 117 #[v, .int .i64 6, .func (.func 118) #[] #[], .func (.func 119) #[] #[]] w fun e w' => e = .returned (.bool (okR l)) ∧ Below w.heap.size w w' := by
  by_cases h6 : 6 < l.length
  · rw [okR_long h6]
    obtain ⟨a, c, rfl⟩ := h.slice
    have y : (6 : Int) < l.length := by omega
    clear h
    go_enter Tryz.func117, Tryz.ntmps117
    go_wp2
    go_ret
    exact ⟨rfl, Below.refl _ _⟩
  have y : (l.length : Int) ≤ 6 := by omega
  rcases h with ⟨rfl, a, c, rfl⟩ | ⟨b, o, cap, rfl, hc⟩
  · go_enter Tryz.func117, Tryz.ntmps117
    go_wp2
    refine wp_loop_rounds 1 ?_
    rw [rounds_succ]
    go_wp2
    go_ret
    exact ⟨rfl, Below.refl _ _⟩
  · have HC := hide hc
    have hbs := hc.1
    clear hc
    generalize hr : okR l = r
    have HR := hide hr; clear hr
    go_enter Tryz.func117, Tryz.ntmps117
    go_wp2
    go_loopw [17] (fun i wr => ∃ k : Nat, k ≤ l.length ∧ i = .int .i64 k ∧ Hid (∀ j, j < k → badR l j = false) ∧ Hid (Below w.heap.size w wr)) (fun i _ => l.length - (intOf i).toNat)
    case atStart => exact ⟨0, Nat.zero_le _, rfl, hide (fun j hj => by omega), hide (Below.refl _ _)⟩
    case round =>
      obtain ⟨k, hk, rfl, hd, hb⟩ := hrel
      by_cases hlt : k < l.length
      · obtain ⟨c0, c1, c2⟩ := ((unhide HC).kept (unhide hb)).2 k hlt
        have hsz : (l.getD k R0).1.size ≤ maxLen := hs _ (by simp [List.getD, hlt])
        have i1 : (0 : Int) ≤ (k : Int) := by omega
        have i2 : (k : Int) < (l.length : Int) := by omega
        have z1 : b < wr.heap.size := Nat.lt_of_lt_of_le hbs (unhide hb).size
        have HBA : Hid (badR l k = (!rowB (l.getD k R0) || (decide (0 < k) && !ltS (l.getD (k - 1) R0).1 (l.getD k R0).1))) := hide rfl
        have k1 : k - 1 < l.length := by omega
        obtain ⟨p0, p1, p2⟩ := ((unhide HC).kept (unhide hb)).2 (k - 1) k1
        generalize hx : l.getD k R0 = x at *
        generalize hp : l.getD (k - 1) R0 = y' at *
        clear hx hp
        obtain ⟨s, m, q⟩ := x
        obtain ⟨t, m', q'⟩ := y'
        simp only at c0 c1 c2 p0 p1 p2 hsz HBA
        have HCA : Hid (∀ W : World, Below w.heap.size w W → Calls Tryz.prog 118 #[.agg #[.string s, .int .i64 m, .int .i64 q]] W fun x w' => x = .returned (.bool (rowB (s, m, q))) ∧ Below W.heap.size W w') := hide (fun W hW => rowI s m q W hsz)
        generalize hR : rowB (s, m, q) = rt at *
        clear hR
        generalize hS : SWR w wr.heap.size b (o + (k - 1) * 3) s m q t m' q' = S
        have HSI : Hid (∀ w2 : World, SWR w wr.heap.size b (o + (k - 1) * 3) s m q t m' q' w2 → S w2) := hide (fun w2 h => by rw [← hS]; exact h)
        have HSE : Hid (∀ w2 : World, S w2 → SWR w wr.heap.size b (o + (k - 1) * 3) s m q t m' q' w2) := hide (fun w2 h => by rw [← hS] at h; exact h)
        clear hS
        have g0 : ∀ g : In S, g.x.cell? ⟨wr.heap.size, 0, none⟩ = some (.string s) := fun g => (unhide HSE _ g.h).1
        have g1 : ∀ g : In S, g.x.cell? ⟨wr.heap.size, 1, none⟩ = some (.int .i64 m) := fun g => (unhide HSE _ g.h).2.1
        have g2 : ∀ g : In S, g.x.cell? ⟨wr.heap.size, 2, none⟩ = some (.int .i64 q) := fun g => (unhide HSE _ g.h).2.2.1
        have g3 : ∀ g : In S, g.x.cell? ⟨b, o + (k - 1) * 3, none⟩ = some (.string t) := fun g => (unhide HSE _ g.h).2.2.2.1
        have g4 : ∀ g : In S, g.x.cell? ⟨b, o + (k - 1) * 3 + 1, none⟩ = some (.int .i64 m') := fun g => (unhide HSE _ g.h).2.2.2.2.1
        have g5 : ∀ g : In S, g.x.cell? ⟨b, o + (k - 1) * 3 + 2, none⟩ = some (.int .i64 q') := fun g => (unhide HSE _ g.h).2.2.2.2.2.1
        have HCB : Hid (∀ g : In S, Calls Tryz.prog 118 #[.agg #[.string s, .int .i64 m, .int .i64 q]] g.x fun x w' => x = .returned (.bool rt) ∧ S w') := hide (fun g => (unhide HCA g.x (unhide HSE _ g.h).2.2.2.2.2.2.2.2).mono (fun x w' ⟨hx, hb⟩ => ⟨hx, unhide HSI _ ((unhide HSE _ g.h).kept hb)⟩))
        have HCC : Hid (∀ (s : ByteArray) (m q : Int) (g : In S), Calls Tryz.prog 119 #[.agg #[.string s, .int .i64 m, .int .i64 q]] g.x fun x w' => x = .returned (.string s) ∧ S w') := hide (fun s m q g => (calledR s m q g.x).mono (fun x w' ⟨hx, hb⟩ => ⟨hx, unhide HSI _ ((unhide HSE _ g.h).kept hb)⟩))
        clear HCA
        cases rt with
        | false =>
          have hr : r = false := (unhide HR).symm.trans (okR_bad hlt ((unhide HBA).trans (by simp)))
          subst hr
          go_wp2
          refine wp_region_in S (by kernel_rfl) (by kernel_rfl) (unhide HSI _ ⟨?_, ?_, ?_, ?_, ?_, ?_, ?_, ?_, ?_⟩) ?_
          · go_keep
          · go_keep
          · go_keep
          · go_keep
          · go_keep
          · go_keep
          · simp
          · simp; omega
          · exact below_drewN' ((unhide hb).alloc (unhide hb).size _) 1
          intro hne
          repeat (go_big_quiet_step (first | exact call_in _ (unhide HCB _) | exact call_in _ (unhide HCC _ _ _ _)))
          refine wpQuiet_nil ?_
          rintro _ ⟨g, rfl⟩
          have HG := hide (unhide HSE _ g.h).2.2.2.2.2.2.2.2
          go_wp2
          go_ret
          exact ⟨rfl, unhide HG⟩
        | true =>
          by_cases k0 : k = 0
          · have hd' : Hid (∀ j, j < k + 1 → badR l j = false) := hide (badR_next (unhide hd) ((unhide HBA).trans (by simp [k0])))
            have kn : decide (0 < k) = false := by simp [k0]
            clear k0
            go_wp2
            refine wp_region_in S (by kernel_rfl) (by kernel_rfl) (unhide HSI _ ⟨?_, ?_, ?_, ?_, ?_, ?_, ?_, ?_, ?_⟩) ?_
            · go_keep
            · go_keep
            · go_keep
            · go_keep
            · go_keep
            · go_keep
            · simp
            · simp; omega
            · exact below_drewN' ((unhide hb).alloc (unhide hb).size _) 1
            intro hne
            repeat (go_big_quiet_step (first | exact call_in _ (unhide HCB _) | exact call_in _ (unhide HCC _ _ _ _)))
            refine wpQuiet_nil ?_
            rintro _ ⟨g, rfl⟩
            have HG := hide (unhide HSE _ g.h).2.2.2.2.2.2.2.2
            go_wp2
            exact ⟨⟨k + 1, by omega, by go_num, hd', HG⟩, by simp [intOf]; omega⟩
          · have kn : 0 < k := by omega
            have kk : (0 : Int) < (k : Int) := by omega
            have j1 : (0 : Int) ≤ (k : Int) - 1 := by omega
            have j2 : (k : Int) - 1 < (l.length : Int) := by omega
            have hwr : IntKind.i64.wrap ((k : Int) - 1) = (k : Int) - 1 := IntWalk.i64_in _ ⟨by omega, by omega⟩
            have htn : ((k : Int) - 1).toNat = k - 1 := by omega
            cases hlx : ltS t s with
            | false =>
              have hr : r = false := (unhide HR).symm.trans (okR_bad hlt ((unhide HBA).trans (by simp [kn, hlx])))
              subst hr
              go_wp2
              refine wp_region_in S (by kernel_rfl) (by kernel_rfl) (unhide HSI _ ⟨?_, ?_, ?_, ?_, ?_, ?_, ?_, ?_, ?_⟩) ?_
              · go_keep
              · go_keep
              · go_keep
              · go_keep
              · go_keep
              · go_keep
              · simp
              · simp; omega
              · exact below_drewN' ((unhide hb).alloc (unhide hb).size _) 1
              intro hne
              repeat (go_big_quiet_step (first | exact call_in _ (unhide HCB _) | exact call_in _ (unhide HCC _ _ _ _)))
              refine wpQuiet_nil ?_
              rintro _ ⟨g, rfl⟩
              have HG := hide (unhide HSE _ g.h).2.2.2.2.2.2.2.2
              go_wp2
              go_ret
              exact ⟨rfl, unhide HG⟩
            | true =>
              have hd' : Hid (∀ j, j < k + 1 → badR l j = false) := hide (badR_next (unhide hd) ((unhide HBA).trans (by simp [kn, hlx])))
              go_wp2
              refine wp_region_in S (by kernel_rfl) (by kernel_rfl) (unhide HSI _ ⟨?_, ?_, ?_, ?_, ?_, ?_, ?_, ?_, ?_⟩) ?_
              · go_keep
              · go_keep
              · go_keep
              · go_keep
              · go_keep
              · go_keep
              · simp
              · simp; omega
              · exact below_drewN' ((unhide hb).alloc (unhide hb).size _) 1
              intro hne
              repeat (go_big_quiet_step (first | exact call_in _ (unhide HCB _) | exact call_in _ (unhide HCC _ _ _ _)))
              refine wpQuiet_nil ?_
              rintro _ ⟨g, rfl⟩
              have HG := hide (unhide HSE _ g.h).2.2.2.2.2.2.2.2
              go_wp2
              exact ⟨⟨k + 1, by omega, by go_num, hd', HG⟩, by simp [intOf]; omega⟩
      · have hr : r = true := (unhide HR).symm.trans (okR_true (by omega) (fun j hj => unhide hd j (by omega)))
        subst hr
        go_wp2
        go_ret
        exact ⟨rfl, unhide hb⟩

/-- impl.rowsRight -/
theorem rowsI (v : Value) (l : List R) (w : World) (h : RR w v l) (hl : l.length ≤ 1048576) (hs : ∀ u ∈ l, u.1.size ≤ maxLen) :
    Calls Tryz.prog 87 #[v] w fun e w' => e = .returned (.bool (okR l)) ∧ Below w.heap.size w w' := by
  have HO := hide (ordR v l w h hl hs)
  generalize okR l = z at HO ⊢
  clear h hs
  go_enter Tryz.func87, Tryz.ntmps87
  go_wp2_with (fail)
  refine (unhide HO).mono ?_
  rintro e w' ⟨rfl, hb⟩
  go_wp2
  go_ret
  exact ⟨rfl, hb⟩
end Go.Proofs.YtkdaljonmkfdaaaGreatDoor.Bill
end

section
/-
  Lists of events that are right: impl.rightInOrder at events, and impl.UseOk.
-/
namespace Go.Proofs.YtkdaljonmkfdaaaGreatDoor.Evs
set_option linter.unusedVariables false
open Go.RowKit RegIn

theorem bad_next {l : List E} {k : Nat} (h : ∀ j, j < k → badAt l j = false) (hk : badAt l k = false) : ∀ j, j < k + 1 → badAt l j = false := fun j hj => by
  by_cases e : j < k
  · exact h j e
  · obtain rfl : j = k := by omega
    exact hk

theorem calledI (s m : ByteArray) (q : Int) (W : World) : Calls Tryz.prog 86 #[.agg #[.string s, .string m, .int .i64 q]] W fun x w' => x = .returned (.string s) ∧ Below W.heap.size W w' := by
  go_enter Tryz.func86, Tryz.ntmps86
  go_wp2
  go_ret
  exact ⟨rfl, (Below.refl _ _).alloc (Nat.le_refl _) _⟩

/-- the worlds of a round: the round's own event at B, the one ahead of it at p in block b -/
def SW (w : World) (B b p : Nat) (s m : ByteArray) (q : Int) (t m' : ByteArray) (q' : Int) (w2 : World) : Prop :=
  w2.cell? ⟨B, 0, none⟩ = some (.string s) ∧ w2.cell? ⟨B, 1, none⟩ = some (.string m) ∧ w2.cell? ⟨B, 2, none⟩ = some (.int .i64 q) ∧ w2.cell? ⟨b, p, none⟩ = some (.string t) ∧ w2.cell? ⟨b, p + 1, none⟩ = some (.string m') ∧ w2.cell? ⟨b, p + 2, none⟩ = some (.int .i64 q') ∧ B < w2.heap.size ∧ b < w2.heap.size ∧ Below w.heap.size w w2
theorem SW.kept {w : World} {B b p : Nat} {s m : ByteArray} {q : Int} {t m' : ByteArray} {q' : Int} {w2 w3 : World} (h : SW w B b p s m q t m' q' w2) (hb : Below w2.heap.size w2 w3) : SW w B b p s m q t m' q' w3 := by
  obtain ⟨a1, a2, a3, a4, a5, a6, a7, a8, a9⟩ := h
  exact ⟨(hb.cell (p := ⟨B, 0, none⟩) a7).trans a1, (hb.cell (p := ⟨B, 1, none⟩) a7).trans a2, (hb.cell (p := ⟨B, 2, none⟩) a7).trans a3, (hb.cell (p := ⟨b, p, none⟩) a8).trans a4, (hb.cell (p := ⟨b, p + 1, none⟩) a8).trans a5, (hb.cell (p := ⟨b, p + 2, none⟩) a8).trans a6, Nat.lt_of_lt_of_le a7 hb.size, Nat.lt_of_lt_of_le a8 hb.size, below_trans a9 hb⟩

set_option maxHeartbeats 2000000 in
/-- impl.rightInOrder at events -/
theorem ordI (v : Value) (l : List E) (w : World) (h : ER w v l) (hl : l.length ≤ 1048576) (hs : ∀ u ∈ l, u.1.size ≤ maxLen ∧ u.2.1.size ≤ maxLen) :
    Calls Tryz.prog 84 #[v, .int .i64 20, .func (.func 85) #[] #[], .func (.func 86) #[] #[]] w fun e w' => e = .returned (.bool (okB l)) ∧ Below w.heap.size w w' := by
  by_cases h20 : 20 < l.length
  · rw [okB_long h20]
    obtain ⟨a, c, rfl⟩ := h.slice
    have y : (20 : Int) < l.length := by omega
    clear h
    go_enter Tryz.func84, Tryz.ntmps84
    go_wp2
    go_ret
    exact ⟨rfl, Below.refl _ _⟩
  have y : (l.length : Int) ≤ 20 := by omega
  rcases h with ⟨rfl, a, c, rfl⟩ | ⟨b, o, cap, rfl, hc⟩
  · go_enter Tryz.func84, Tryz.ntmps84
    go_wp2
    refine wp_loop_rounds 1 ?_
    rw [rounds_succ]
    go_wp2
    go_ret
    exact ⟨rfl, Below.refl _ _⟩
  · have HC := hide hc
    have hbs := hc.1
    clear hc
    generalize hr : okB l = r
    have HR := hide hr; clear hr
    go_enter Tryz.func84, Tryz.ntmps84
    go_wp2
    go_loopw [17] (fun i wr => ∃ k : Nat, k ≤ l.length ∧ i = .int .i64 k ∧ Hid (∀ j, j < k → badAt l j = false) ∧ Hid (Below w.heap.size w wr)) (fun i _ => l.length - (intOf i).toNat)
    case atStart => exact ⟨0, Nat.zero_le _, rfl, hide (fun j hj => by omega), hide (Below.refl _ _)⟩
    case round =>
      obtain ⟨k, hk, rfl, hd, hb⟩ := hrel
      by_cases hlt : k < l.length
      · obtain ⟨c0, c1, c2⟩ := ((unhide HC).kept (unhide hb)).2 k hlt
        obtain ⟨hsz, hmz⟩ : (l.getD k E0).1.size ≤ maxLen ∧ (l.getD k E0).2.1.size ≤ maxLen := hs _ (by simp [List.getD, hlt])
        have i1 : (0 : Int) ≤ (k : Int) := by omega
        have i2 : (k : Int) < (l.length : Int) := by omega
        have z1 : b < wr.heap.size := Nat.lt_of_lt_of_le hbs (unhide hb).size
        have HBA : Hid (badAt l k = (!rightE (l.getD k E0) || (decide (0 < k) && !ltS (l.getD (k - 1) E0).1 (l.getD k E0).1))) := hide rfl
        have k1 : k - 1 < l.length := by omega
        obtain ⟨p0, p1, p2⟩ := ((unhide HC).kept (unhide hb)).2 (k - 1) k1
        generalize hx : l.getD k E0 = x at *
        generalize hp : l.getD (k - 1) E0 = y' at *
        clear hx hp
        obtain ⟨s, m, q⟩ := x
        obtain ⟨t, m', q'⟩ := y'
        simp only at c0 c1 c2 p0 p1 p2 hsz hmz HBA
        have HCA : Hid (∀ W : World, Calls Tryz.prog 85 #[.agg #[.string s, .string m, .int .i64 q]] W fun x w' => x = .returned (.bool (rightE (s, m, q))) ∧ Below W.heap.size W w') := hide (fun W => rightI (s, m, q) W hsz hmz)
        generalize hR : rightE (s, m, q) = rt at *
        clear hR
        generalize hS : SW w wr.heap.size b (o + (k - 1) * 3) s m q t m' q' = S
        have HSI : Hid (∀ w2 : World, SW w wr.heap.size b (o + (k - 1) * 3) s m q t m' q' w2 → S w2) := hide (fun w2 h => by rw [← hS]; exact h)
        have HSE : Hid (∀ w2 : World, S w2 → SW w wr.heap.size b (o + (k - 1) * 3) s m q t m' q' w2) := hide (fun w2 h => by rw [← hS] at h; exact h)
        clear hS
        have g0 : ∀ g : In S, g.x.cell? ⟨wr.heap.size, 0, none⟩ = some (.string s) := fun g => (unhide HSE _ g.h).1
        have g1 : ∀ g : In S, g.x.cell? ⟨wr.heap.size, 1, none⟩ = some (.string m) := fun g => (unhide HSE _ g.h).2.1
        have g2 : ∀ g : In S, g.x.cell? ⟨wr.heap.size, 2, none⟩ = some (.int .i64 q) := fun g => (unhide HSE _ g.h).2.2.1
        have g3 : ∀ g : In S, g.x.cell? ⟨b, o + (k - 1) * 3, none⟩ = some (.string t) := fun g => (unhide HSE _ g.h).2.2.2.1
        have g4 : ∀ g : In S, g.x.cell? ⟨b, o + (k - 1) * 3 + 1, none⟩ = some (.string m') := fun g => (unhide HSE _ g.h).2.2.2.2.1
        have g5 : ∀ g : In S, g.x.cell? ⟨b, o + (k - 1) * 3 + 2, none⟩ = some (.int .i64 q') := fun g => (unhide HSE _ g.h).2.2.2.2.2.1
        have HCB : Hid (∀ g : In S, Calls Tryz.prog 85 #[.agg #[.string s, .string m, .int .i64 q]] g.x fun x w' => x = .returned (.bool rt) ∧ S w') := hide (fun g => (unhide HCA g.x).mono (fun x w' ⟨hx, hb⟩ => ⟨hx, unhide HSI _ ((unhide HSE _ g.h).kept hb)⟩))
        have HCC : Hid (∀ (s m : ByteArray) (q : Int) (g : In S), Calls Tryz.prog 86 #[.agg #[.string s, .string m, .int .i64 q]] g.x fun x w' => x = .returned (.string s) ∧ S w') := hide (fun s m q g => (calledI s m q g.x).mono (fun x w' ⟨hx, hb⟩ => ⟨hx, unhide HSI _ ((unhide HSE _ g.h).kept hb)⟩))
        clear HCA
        cases rt with
        | false =>
          have hr : r = false := (unhide HR).symm.trans (okB_bad hlt ((unhide HBA).trans (by simp)))
          subst hr
          go_wp2
          refine wp_region_in S (by kernel_rfl) (by kernel_rfl) (unhide HSI _ ⟨?_, ?_, ?_, ?_, ?_, ?_, ?_, ?_, ?_⟩) ?_
          · go_keep
          · go_keep
          · go_keep
          · go_keep
          · go_keep
          · go_keep
          · simp
          · simp; omega
          · exact below_drewN' ((unhide hb).alloc (unhide hb).size _) 1
          intro hne
          repeat (go_big_quiet_step (first | exact call_in _ (unhide HCB _) | exact call_in _ (unhide HCC _ _ _ _)))
          refine wpQuiet_nil ?_
          rintro _ ⟨g, rfl⟩
          have HG := hide (unhide HSE _ g.h).2.2.2.2.2.2.2.2
          go_wp2
          go_ret
          exact ⟨rfl, unhide HG⟩
        | true =>
          by_cases k0 : k = 0
          · have hd' : Hid (∀ j, j < k + 1 → badAt l j = false) := hide (bad_next (unhide hd) ((unhide HBA).trans (by simp [k0])))
            have kn : decide (0 < k) = false := by simp [k0]
            clear k0
            go_wp2
            refine wp_region_in S (by kernel_rfl) (by kernel_rfl) (unhide HSI _ ⟨?_, ?_, ?_, ?_, ?_, ?_, ?_, ?_, ?_⟩) ?_
            · go_keep
            · go_keep
            · go_keep
            · go_keep
            · go_keep
            · go_keep
            · simp
            · simp; omega
            · exact below_drewN' ((unhide hb).alloc (unhide hb).size _) 1
            intro hne
            repeat (go_big_quiet_step (first | exact call_in _ (unhide HCB _) | exact call_in _ (unhide HCC _ _ _ _)))
            refine wpQuiet_nil ?_
            rintro _ ⟨g, rfl⟩
            have HG := hide (unhide HSE _ g.h).2.2.2.2.2.2.2.2
            go_wp2
            exact ⟨⟨k + 1, by omega, by go_num, hd', HG⟩, by simp [intOf]; omega⟩
          · have kn : 0 < k := by omega
            have kk : (0 : Int) < (k : Int) := by omega
            have j1 : (0 : Int) ≤ (k : Int) - 1 := by omega
            have j2 : (k : Int) - 1 < (l.length : Int) := by omega
            have hwr : IntKind.i64.wrap ((k : Int) - 1) = (k : Int) - 1 := IntWalk.i64_in _ ⟨by omega, by omega⟩
            have htn : ((k : Int) - 1).toNat = k - 1 := by omega
            cases hlx : ltS t s with
            | false =>
              have hr : r = false := (unhide HR).symm.trans (okB_bad hlt ((unhide HBA).trans (by simp [kn, hlx])))
              subst hr
              go_wp2
              refine wp_region_in S (by kernel_rfl) (by kernel_rfl) (unhide HSI _ ⟨?_, ?_, ?_, ?_, ?_, ?_, ?_, ?_, ?_⟩) ?_
              · go_keep
              · go_keep
              · go_keep
              · go_keep
              · go_keep
              · go_keep
              · simp
              · simp; omega
              · exact below_drewN' ((unhide hb).alloc (unhide hb).size _) 1
              intro hne
              repeat (go_big_quiet_step (first | exact call_in _ (unhide HCB _) | exact call_in _ (unhide HCC _ _ _ _)))
              refine wpQuiet_nil ?_
              rintro _ ⟨g, rfl⟩
              have HG := hide (unhide HSE _ g.h).2.2.2.2.2.2.2.2
              go_wp2
              go_ret
              exact ⟨rfl, unhide HG⟩
            | true =>
              have hd' : Hid (∀ j, j < k + 1 → badAt l j = false) := hide (bad_next (unhide hd) ((unhide HBA).trans (by simp [kn, hlx])))
              go_wp2
              refine wp_region_in S (by kernel_rfl) (by kernel_rfl) (unhide HSI _ ⟨?_, ?_, ?_, ?_, ?_, ?_, ?_, ?_, ?_⟩) ?_
              · go_keep
              · go_keep
              · go_keep
              · go_keep
              · go_keep
              · go_keep
              · simp
              · simp; omega
              · exact below_drewN' ((unhide hb).alloc (unhide hb).size _) 1
              intro hne
              repeat (go_big_quiet_step (first | exact call_in _ (unhide HCB _) | exact call_in _ (unhide HCC _ _ _ _)))
              refine wpQuiet_nil ?_
              rintro _ ⟨g, rfl⟩
              have HG := hide (unhide HSE _ g.h).2.2.2.2.2.2.2.2
              go_wp2
              exact ⟨⟨k + 1, by omega, by go_num, hd', HG⟩, by simp [intOf]; omega⟩
      · have hr : r = true := (unhide HR).symm.trans (okB_true (by omega) (fun j hj => unhide hd j (by omega)))
        subst hr
        go_wp2
        go_ret
        exact ⟨rfl, unhide hb⟩

/-- impl.UseOk -/
theorem okI (v : Value) (l : List E) (w : World) (h : ER w v l) (hl : l.length ≤ 1048576) (hs : ∀ u ∈ l, u.1.size ≤ maxLen ∧ u.2.1.size ≤ maxLen) :
    Calls Tryz.prog 40 #[v] w fun e w' => e = .returned (.bool (okB l)) ∧ Below w.heap.size w w' := by
  have HO := hide (ordI v l w h hl hs)
  generalize okB l = z at HO ⊢
  clear h hs
  go_enter Tryz.func40, Tryz.ntmps40
  go_wp2_with (fail)
  refine (unhide HO).mono ?_
  rintro e w' ⟨rfl, hb⟩
  go_wp2
  go_ret
  exact ⟨rfl, hb⟩
end Go.Proofs.YtkdaljonmkfdaaaGreatDoor.Evs
end

section
/-
  Lines of tariffs (two texts and a number, in memory as events are): the laws' own helpers on them: size, copy, compare.
-/
namespace Go.Proofs.YtkdaljonmkfdaaaGreatDoor.Evs
set_option linter.unusedVariables false
open Go.RowKit

/-- szBillLine -/
theorem szLin (s m : ByteArray) (q n : Int) (w : World) (hu : s.size ≤ maxLen) (hm : m.size ≤ maxLen) (h0 : 0 ≤ n) (h1 : n ≤ 1048576) :
    Calls Tryz.prog 72 #[.agg #[.string s, .string m, .int .i64 q], .int .i64 n] w fun e w' => ∃ r : Int, e = .returned (.int .i64 r) ∧ -1 ≤ r ∧ r ≤ n ∧ Below w.heap.size w w' := by
  unfold maxLen at hu hm
  by_cases hn : n - s.size < 0
  · go_enter Tryz.func72, Tryz.ntmps72
    go_wp2
    go_ret
    exact ⟨_, rfl, by omega, by omega, (Below.refl _ _).alloc (Nat.le_refl _) _⟩
  by_cases hn2 : n - s.size - m.size < 0
  · go_enter Tryz.func72, Tryz.ntmps72
    go_wp2
    go_ret
    exact ⟨_, rfl, by omega, by omega, (Below.refl _ _).alloc (Nat.le_refl _) _⟩
  · go_enter Tryz.func72, Tryz.ntmps72
    go_wp2
    go_ret
    exact ⟨_, rfl, by omega, by omega, (Below.refl _ _).alloc (Nat.le_refl _) _⟩

/-- szBillLineS -/
theorem szLins (v : Value) (l : List E) (n : Int) (w : World) (h : ER w v l) (hl : l.length ≤ maxLen) (hs : ∀ u ∈ l, u.1.size ≤ maxLen ∧ u.2.1.size ≤ maxLen) (h0 : 0 ≤ n) (h1 : n ≤ 1048576) :
    Calls Tryz.prog 28 #[v, .int .i64 n] w fun e w' => ∃ r : Int, e = .returned (.int .i64 r) ∧ -1 ≤ r ∧ r ≤ n ∧ (0 ≤ r → l.length ≤ n) ∧ Below w.heap.size w w' := by
  have hs' := hs
  unfold maxLen at hl hs
  by_cases hneg : n - l.length < 0
  · obtain ⟨a, c, rfl⟩ := h.slice
    clear h
    go_enter Tryz.func28, Tryz.ntmps28
    go_wp2
    go_ret
    exact ⟨_, rfl, by omega, by omega, fun h => by omega, Below.refl _ _⟩
  rcases h with ⟨rfl, a, c, rfl⟩ | ⟨b, o, cap, rfl, hc⟩
  · go_enter Tryz.func28, Tryz.ntmps28
    go_wp2
    refine wp_loop_rounds 1 ?_
    rw [rounds_succ]
    go_wp2
    go_ret
    exact ⟨_, rfl, by omega, by omega, fun h => by simpa using h0, Below.refl _ _⟩
  · have HC := hide hc; clear hc
    go_enter Tryz.func28, Tryz.ntmps28
    go_wp2
    go_loopw [1, 5] (fun t i wr => ∃ (k : Nat) (q : Int), k ≤ l.length ∧ i = .int .i64 k ∧ t = .int .i64 q ∧ 0 ≤ q ∧ q ≤ n ∧ Hid (Below w.heap.size w wr)) (fun _ i _ => l.length - (intOf i).toNat)
    case atStart => exact ⟨0, _, by omega, rfl, rfl, by omega, by omega, hide (Below.refl _ _)⟩
    case round =>
      obtain ⟨k, q, hk, rfl, rfl, hq0, hq1, hb⟩ := hrel
      by_cases hlt : k < l.length
      · have hc := ((unhide HC).kept (unhide hb)).2 k hlt
        obtain ⟨c1, c2, c3⟩ := hc
        obtain ⟨hsz, hmz⟩ : (l.getD k E0).1.size ≤ maxLen ∧ (l.getD k E0).2.1.size ≤ maxLen := hs' _ (by simp [List.getD, hlt])
        generalize (l.getD k E0).1 = s at *
        generalize (l.getD k E0).2.1 = m at *
        generalize (l.getD k E0).2.2 = z at *
        go_wp2_with (fail)
        refine (szLin s m z q wr hsz hmz hq0 (by omega)).mono ?_
        rintro e w1 ⟨r, rfl, r1, r2, hb1⟩
        have HB : Hid (Below w.heap.size w w1) := hide (below_trans (unhide hb) hb1)
        clear hb hb1
        by_cases hr : r < 0
        · go_wp2
          go_ret
          exact ⟨_, rfl, by omega, by omega, fun h => by omega, unhide HB⟩
        · go_wp2
          exact ⟨⟨k + 1, r, by omega, by go_num, rfl, by omega, by omega, HB⟩, by simp [intOf]; omega⟩
      · go_wp2
        go_ret
        exact ⟨_, rfl, by omega, by omega, fun h => by omega, unhide hb⟩

theorem infoL : (Tryz.prog.info? 120).map (fun i => (i.zero, i.size, i.bytes)) = some (some (.agg #[.string ByteArray.empty, .string ByteArray.empty, .int .i64 0]), 3, 40) := by kernel_rfl

theorem makeL (n : Nat) (hn : n ≤ 1048576) (w : World) : (Instr.makeSlice 38 (.int .i64 (n : Int)) (.int .i64 (n : Int))).run Tryz.prog w = .ok (.slice (some ⟨w.heap.size, 0, none⟩) n n) (w.alloc (.cells (madeCells #[.string ByteArray.empty, .string ByteArray.empty, .int .i64 0] (n * 3)) 120)) := by
  obtain ⟨i, hi, h2⟩ := Option.map_eq_some_iff.1 infoL
  simp only [Prod.mk.injEq] at h2
  obtain ⟨hz, hs, hb⟩ := h2
  have := run_make (P := Tryz.prog) w 38 120 i _ Tryz.underlying38 hi hz .i64 .i64 n n (by omega) (by omega) (by rw [hb]; omega) (by omega)
  have e : (Value.agg #[.string ByteArray.empty, .string ByteArray.empty, .int .i64 0]).cells = #[.string ByteArray.empty, .string ByteArray.empty, .int .i64 0] := rfl
  rw [hs, e] at this
  simpa using this

theorem toLin (s m : ByteArray) (q : Int) (w : World) :
    Calls Tryz.prog 78 #[.agg #[.string s, .string m, .int .i64 q]] w fun e w' => e = .returned (.agg #[.string s, .string m, .int .i64 q]) ∧ Below w.heap.size w w' := by
  go_enter Tryz.func78, Tryz.ntmps78
  go_wp2
  exact bodyPost_ret (v := .agg #[.string s, .string m, .int .i64 q]) (by simp [results, Tryz.results78, go_sem]) rfl ⟨rfl, ((((Below.refl _ _).alloc (Nat.le_refl _) _).alloc (by simp) _).alloc (by simp; omega) _)⟩

set_option maxHeartbeats 800000 in
theorem toLins (v : Value) (l : List E) (w : World) (h : ER w v l) (hl : l.length ≤ 1048576) :
    Calls Tryz.prog 36 #[v] w fun e w' => ∃ v', e = .returned v' ∧ EN w.heap.size w' v' l ∧ Below w.heap.size w w' := by
  have hmk := makeL l.length hl
  rcases h with ⟨rfl, a, c, rfl⟩ | ⟨b, o, cap, rfl, h2⟩
  · clear hmk hl
    have hmk0 : ∀ w : World, (Instr.makeSlice 38 (.int .i64 0) (.int .i64 0)).run Tryz.prog w = .ok (.slice (some ⟨w.heap.size, 0, none⟩) 0 0) (w.alloc (.cells #[] 120)) := fun w => by kernel_rfl
    go_enter Tryz.func36, Tryz.ntmps36
    go_wp2
    refine wp_loop_rounds 1 ?_
    rw [rounds_succ]
    go_wp2
    go_ret
    exact ⟨_, rfl, .inl ⟨rfl, _, _, rfl⟩, (Below.refl _ _).alloc (Nat.le_refl _) _⟩
  · have H3 := hide h2; clear h2
    have hbs := (unhide H3).1
    go_enter Tryz.func36, Tryz.ntmps36
    go_wp2
    go_loopw [4] (fun i wr => ∃ k : Nat, k ≤ l.length ∧ i = .int .i64 k ∧ Hid (EOwn wr w.heap.size (l.take k ++ List.replicate (l.length - k) E0)) ∧ Below w.heap.size w wr) (fun i _ => l.length - (intOf i).toNat)
    case atStart => exact ⟨0, Nat.zero_le _, rfl, by show EOwn _ _ _; simpa using EOwn.made w l.length _, (Below.refl _ _).alloc (Nat.le_refl _) _⟩
    case round =>
      obtain ⟨k, hk, rfl, hd, hb⟩ := hrel
      by_cases hlt : k < l.length
      · obtain ⟨c0, c1, c2⟩ := ((unhide H3).kept hb).2 k hlt
        have HK : Hid (∀ w1, Below wr.heap.size wr w1 → EOwn w1 w.heap.size (l.take k ++ List.replicate (l.length - k) E0)) := hide (fun w1 h1 => (unhide hd).kept h1)
        have HS : Hid (∀ w1, EOwn w1 w.heap.size (l.take k ++ List.replicate (l.length - k) E0) → EOwn (((w1.setCell ⟨w.heap.size, k * 3, none⟩ (.string (l.getD k E0).1)).setCell ⟨w.heap.size, k * 3 + 1, none⟩ (.string (l.getD k E0).2.1)).setCell ⟨w.heap.size, k * 3 + 2, none⟩ (.int .i64 (l.getD k E0).2.2)) w.heap.size (l.take (k + 1) ++ List.replicate (l.length - (k + 1)) E0)) := hide (fun w1 h1 => by
          have := h1.set (k := k) (by simp; omega) (l.getD k E0)
          rwa [copy_step l k hlt, Nat.zero_add] at this)
        have HB := hide hb
        have hk2 : k < (l.take k ++ List.replicate (l.length - k) E0).length := by simp; omega
        clear hb hd
        generalize l.getD k E0 = x at *
        obtain ⟨s, m, q⟩ := x
        generalize hL : l.take k ++ List.replicate (l.length - k) E0 = L at *
        have HL := hide hL
        clear hL
        simp only at c0 c1 c2 HS
        go_wp2_with (fail)
        refine (toLin s m q wr).mono ?_
        rintro e w1 ⟨rfl, hb1⟩
        have HX := hide (unhide HS w1 (unhide HK w1 hb1))
        obtain ⟨⟨_, hcs⟩, hfz⟩ := unhide HK w1 hb1
        obtain ⟨d0, d1, d2⟩ := hcs k hk2
        have f0 := hfz (k * 3)
        have f1 := hfz (k * 3 + 1)
        have f2 := hfz (k * 3 + 2)
        rw [Nat.zero_add] at d0 d1 d2
        clear hcs hfz
        have HB1 : Hid (Below w.heap.size w w1) := hide (below_trans (unhide HB) hb1)
        clear hb1 HB
        generalize (L.getD k E0).1 = y0 at *
        generalize (L.getD k E0).2.1 = y1 at *
        generalize (L.getD k E0).2.2 = y2 at *
        go_wp2
        exact ⟨⟨k + 1, by omega, by go_num, HX, (((unhide HB1).setCell (Nat.le_refl _) _).setCell (Nat.le_refl _) _).setCell (Nat.le_refl _) _⟩, by simp [intOf]; omega⟩
      · obtain rfl : k = l.length := by omega
        go_wp2
        go_ret
        refine ⟨_, rfl, .inr ⟨w.heap.size, l.length, rfl, ⟨Nat.le_refl _, Nat.le_refl _⟩, ?_⟩, hb⟩
        have := unhide hd
        simpa using this

/-- eqBillLine, of one and the same -/
theorem eqLin (s m : ByteArray) (p : Int) (w : World) :
    Calls Tryz.prog 91 #[.agg #[.string s, .string m, .int .i64 p], .agg #[.string s, .string m, .int .i64 p]] w fun e w' => e = .returned (.bool true) ∧ Below w.heap.size w w' := by
  have h1 : (!s.toList == s.toList) = false := by simp
  have h3 : (!m.toList == m.toList) = false := by simp
  have h2 : (p != p) = false := by simp
  go_enter Tryz.func91, Tryz.ntmps91
  go_wp2
  go_ret
  exact ⟨rfl, ((Below.refl _ _).alloc (Nat.le_refl _) _).alloc (by simp) _⟩

set_option maxHeartbeats 800000 in
theorem eqLins (v v' : Value) (l : List E) (w : World) (h : ER w v l) (h' : ER w v' l) (hl : l.length ≤ 1048576) :
    Calls Tryz.prog 45 #[v, v'] w fun e w' => e = .returned (.bool true) ∧ Below w.heap.size w w' := by
  have hn : (((l.length : Int)) != (l.length : Int)) = false := by simp
  by_cases h0 : l.length = 0
  · obtain rfl : l = [] := List.length_eq_zero_iff.1 h0
    obtain ⟨a, c, rfl⟩ := h.slice
    obtain ⟨a', c', rfl⟩ := h'.slice
    clear h h' h0 hl hn
    go_enter Tryz.func45, Tryz.ntmps45
    go_wp2
    refine wp_loop_rounds 1 ?_
    rw [rounds_succ]
    go_wp2
    go_ret
    exact ⟨rfl, Below.refl _ _⟩
  · rcases h with ⟨rfl, _⟩ | ⟨b, o, cap, rfl, hc⟩
    · simp at h0
    rcases h' with ⟨rfl, _⟩ | ⟨b', o', cap', rfl, hc'⟩
    · simp at h0
    have HC := hide hc; have HC' := hide hc'
    have hbs := hc.1
    have hbs' := hc'.1
    clear hc hc' h0
    go_enter Tryz.func45, Tryz.ntmps45
    go_wp2
    go_loopw [5] (fun i wr => ∃ k : Nat, k ≤ l.length ∧ i = .int .i64 k ∧ Hid (Below w.heap.size w wr)) (fun i _ => l.length - (intOf i).toNat)
    case atStart => exact ⟨0, Nat.zero_le _, rfl, hide (Below.refl _ _)⟩
    case round =>
      obtain ⟨k, hk, rfl, hb⟩ := hrel
      by_cases hlt : k < l.length
      · obtain ⟨c0, c1, c2⟩ := ((unhide HC).kept (unhide hb)).2 k hlt
        obtain ⟨d0, d1, d2⟩ := ((unhide HC').kept (unhide hb)).2 k hlt
        have i1 : (0 : Int) ≤ (k : Int) := by omega
        have i2 : (k : Int) < (l.length : Int) := by omega
        have z1 : b < wr.heap.size := Nat.lt_of_lt_of_le hbs (unhide hb).size
        have z2 : b' < wr.heap.size := Nat.lt_of_lt_of_le hbs' (unhide hb).size
        generalize l.getD k E0 = x at *
        obtain ⟨s, m, q⟩ := x
        simp only at c0 c1 c2 d0 d1 d2
        go_wp2
        go_region_held3 (fun w2 => w2.cell? ⟨b, o + k * 3, none⟩ = some (.string s) ∧ w2.cell? ⟨b, o + k * 3 + 1, none⟩ = some (.string m) ∧ w2.cell? ⟨b, o + k * 3 + 2, none⟩ = some (.int .i64 q) ∧ w2.cell? ⟨b', o' + k * 3, none⟩ = some (.string s) ∧ w2.cell? ⟨b', o' + k * 3 + 1, none⟩ = some (.string m) ∧ w2.cell? ⟨b', o' + k * 3 + 2, none⟩ = some (.int .i64 q)) (go_keep) (first | (go_at_call 91; refine (eqLin s m q _).mono ?_; rintro e w1 ⟨rfl, hb1⟩; have q1 := hb1.cell (p := ⟨b, o + k * 3, none⟩) z1; have q2 := hb1.cell (p := ⟨b, o + k * 3 + 1, none⟩) z1; have q5 := hb1.cell (p := ⟨b, o + k * 3 + 2, none⟩) z1; have q3 := hb1.cell (p := ⟨b', o' + k * 3, none⟩) z2; have q4 := hb1.cell (p := ⟨b', o' + k * 3 + 1, none⟩) z2; have q6 := hb1.cell (p := ⟨b', o' + k * 3 + 2, none⟩) z2))
        have HB : Hid (Below w.heap.size w w1) := hide (below_trans (unhide hb) (below_of_drew hb1))
        clear hb1 hb q1 q2 q3 q4 q5 q6
        go_wp2
        exact ⟨⟨k + 1, by omega, by go_num, HB⟩, by simp [intOf]; omega⟩
      · go_wp2
        go_ret
        exact ⟨rfl, unhide hb⟩
end Go.Proofs.YtkdaljonmkfdaaaGreatDoor.Evs
end
