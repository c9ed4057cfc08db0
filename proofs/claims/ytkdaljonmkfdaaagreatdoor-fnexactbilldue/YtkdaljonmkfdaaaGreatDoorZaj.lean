/-
  Texts of this proof laid together, in build order; each says of itself what it holds.
-/
import Derived.Test.YtkdaljonmkfdaaaGreatDoorZai
import Derived.Test.YtkdaljonmkfdaaaGreatDoorZah
import Derived.Test.YtkdaljonmkfdaaaGreatDoorZaf
section
/-
  Invoices and bills in memory, and the laws' own helpers on them: size, copy, compare.
-/
namespace Go.Proofs.YtkdaljonmkfdaaaGreatDoor.Bills
set_option linter.unusedVariables false
open Go.RowKit
open Evs (E E0 ER EN EC EOwn)
open BRow (R R0 RR RN RC ROwn)

theorem hide {p : Prop} (h : p) : Hid p := h
theorem unhide {p : Prop} (h : Hid p) : p := h
theorem below_trans {w w1 w2 : World} (h : Below w.heap.size w w1) (k : Below w1.heap.size w1 w2) : Below w.heap.size w w2 := h.trans (k.mono h.size)
theorem below_alloc (w : World) (o : Obj) : Below w.heap.size w (w.alloc o) := (Below.refl _ _).alloc (Nat.le_refl _) o

/-- an invoice -/
structure I where
  no : Int
  rows : List R
  evs : List E
  net : Int
  tax : Int
  credit : Int
  deriving DecidableEq, Inhabited
abbrev I0 : I := ⟨0, [], [], 0, 0, 0⟩
/-- a bill -/
structure B where
  tar : List E
  evs : List E
  invs : List I
  paid : Int
  deriving DecidableEq, Inhabited

/-- an invoice as a value -/
abbrev iV (x : I) (rv ev : Value) : Value := .agg #[.int .i64 x.no, rv, ev, .int .i64 x.net, .int .i64 x.tax, .int .i64 x.credit]
/-- the cells of one invoice -/
def I6 (W : World) (b o : Nat) (x : I) (rv ev : Value) : Prop :=
  W.cell? ⟨b, o, none⟩ = some (.int .i64 x.no) ∧ W.cell? ⟨b, o + 1, none⟩ = some rv ∧ W.cell? ⟨b, o + 2, none⟩ = some ev ∧ W.cell? ⟨b, o + 3, none⟩ = some (.int .i64 x.net) ∧ W.cell? ⟨b, o + 4, none⟩ = some (.int .i64 x.tax) ∧ W.cell? ⟨b, o + 5, none⟩ = some (.int .i64 x.credit)
/-- what hangs on an invoice -/
def IW (W : World) (rv ev : Value) (x : I) : Prop := RR W rv x.rows ∧ ER W ev x.evs
/-- from o on block b holds the invoices l -/
def IC (W : World) (b o : Nat) (l : List I) : Prop := b < W.heap.size ∧ ∀ i, i < l.length → ∃ rv ev, I6 W b (o + i * 6) (l.getD i I0) rv ev ∧ IW W rv ev (l.getD i I0)
/-- the slice v holds the invoices l -/
def IR (W : World) (v : Value) (l : List I) : Prop :=
  (l = [] ∧ ∃ a c, v = .slice a 0 c) ∨ ∃ b o cap, v = .slice (some ⟨b, o, none⟩) l.length cap ∧ IC W b o l
/-- the value v is the bill x -/
def BV (W : World) (v : Value) (x : B) : Prop := ∃ tv ev iv, v = .agg #[tv, ev, iv, .int .i64 x.paid] ∧ ER W tv x.tar ∧ ER W ev x.evs ∧ IR W iv x.invs

theorem I6.kept {W W' : World} {b o : Nat} {x : I} {rv ev : Value} (h : I6 W b o x rv ev) (hl : b < W.heap.size) (hb : Below W.heap.size W W') : I6 W' b o x rv ev :=
  ⟨(hb.cell (p := ⟨b, o, none⟩) hl).trans h.1, (hb.cell (p := ⟨b, o + 1, none⟩) hl).trans h.2.1, (hb.cell (p := ⟨b, o + 2, none⟩) hl).trans h.2.2.1, (hb.cell (p := ⟨b, o + 3, none⟩) hl).trans h.2.2.2.1, (hb.cell (p := ⟨b, o + 4, none⟩) hl).trans h.2.2.2.2.1, (hb.cell (p := ⟨b, o + 5, none⟩) hl).trans h.2.2.2.2.2⟩
theorem IW.kept {W W' : World} {rv ev : Value} {x : I} (h : IW W rv ev x) (hb : Below W.heap.size W W') : IW W' rv ev x := ⟨h.1.kept hb, h.2.kept hb⟩
theorem IC.kept {W W' : World} {b o : Nat} {l : List I} (h : IC W b o l) (hb : Below W.heap.size W W') : IC W' b o l :=
  ⟨Nat.lt_of_lt_of_le h.1 hb.size, fun i hi => by
    obtain ⟨rv, ev, h6, hw⟩ := h.2 i hi
    exact ⟨rv, ev, h6.kept h.1 hb, hw.kept hb⟩⟩
theorem IR.kept {W W' : World} {v : Value} {l : List I} (h : IR W v l) (hb : Below W.heap.size W W') : IR W' v l := by
  rcases h with h | ⟨b, o, cap, rfl, hc⟩
  · exact .inl h
  · exact .inr ⟨b, o, cap, rfl, hc.kept hb⟩
theorem IR.slice {W : World} {v : Value} {l : List I} (h : IR W v l) : ∃ a c, v = .slice a l.length c := by
  rcases h with ⟨rfl, a, c, rfl⟩ | ⟨b, o, cap, rfl, _⟩
  · exact ⟨_, _, rfl⟩
  · exact ⟨_, _, rfl⟩
theorem BV.kept {W W' : World} {v : Value} {x : B} (h : BV W v x) (hb : Below W.heap.size W W') : BV W' v x := by
  obtain ⟨tv, ev, iv, rfl, h1, h2, h3⟩ := h
  exact ⟨tv, ev, iv, rfl, h1.kept hb, h2.kept hb, h3.kept hb⟩

/-! ### size -/
def FineE (l : List E) : Prop := l.length ≤ maxLen ∧ ∀ u ∈ l, u.1.size ≤ maxLen ∧ u.2.1.size ≤ maxLen
def FineR (l : List R) : Prop := l.length ≤ maxLen ∧ ∀ u ∈ l, u.1.size ≤ maxLen
def FineI (x : I) : Prop := FineR x.rows ∧ FineE x.evs
def FineIs (l : List I) : Prop := l.length ≤ maxLen ∧ ∀ x ∈ l, FineI x
def FineB (x : B) : Prop := FineE x.tar ∧ FineE x.evs ∧ FineIs x.invs
/-- not too many of anything -/
def FewI (x : I) : Prop := x.rows.length ≤ 1048576 ∧ x.evs.length ≤ 1048576
def FewIs (l : List I) : Prop := l.length ≤ 1048576 ∧ ∀ x ∈ l, FewI x
def FewB (x : B) : Prop := x.tar.length ≤ 1048576 ∧ x.evs.length ≤ 1048576 ∧ FewIs x.invs

theorem box6 (w w1 : World) (a b c d e f : Value) (t : TypeId) (hb : Below (w.alloc (.cells #[a, b, c, d, e, f] t)).heap.size (w.alloc (.cells #[a, b, c, d, e, f] t)) w1) :
    w1.cell? ⟨w.heap.size, 0, none⟩ = some a ∧ w1.cell? ⟨w.heap.size, 1, none⟩ = some b ∧ w1.cell? ⟨w.heap.size, 2, none⟩ = some c ∧ w1.cell? ⟨w.heap.size, 3, none⟩ = some d ∧ w1.cell? ⟨w.heap.size, 4, none⟩ = some e ∧ w1.cell? ⟨w.heap.size, 5, none⟩ = some f ∧ Below w.heap.size w w1 := by
  have e1 := (MapKept.heap_alloc w (.cells #[a, b, c, d, e, f] t)).1
  have n : ∀ k v, #[a, b, c, d, e, f][k]? = some v → (w.alloc (.cells #[a, b, c, d, e, f] t)).cell? ⟨w.heap.size, k, none⟩ = some v := by
    intro k v hv
    simp only [World.cell?]
    rw [e1]; simpa using hv
  exact ⟨(hb.cell (p := ⟨w.heap.size, 0, none⟩) (by simp)).trans (n 0 _ rfl), (hb.cell (p := ⟨w.heap.size, 1, none⟩) (by simp)).trans (n 1 _ rfl), (hb.cell (p := ⟨w.heap.size, 2, none⟩) (by simp)).trans (n 2 _ rfl), (hb.cell (p := ⟨w.heap.size, 3, none⟩) (by simp)).trans (n 3 _ rfl), (hb.cell (p := ⟨w.heap.size, 4, none⟩) (by simp)).trans (n 4 _ rfl), (hb.cell (p := ⟨w.heap.size, 5, none⟩) (by simp)).trans (n 5 _ rfl), (below_alloc _ _).trans (hb.mono (by simp))⟩
theorem box4 (w w1 : World) (a b c d : Value) (t : TypeId) (hb : Below (w.alloc (.cells #[a, b, c, d] t)).heap.size (w.alloc (.cells #[a, b, c, d] t)) w1) :
    w1.cell? ⟨w.heap.size, 0, none⟩ = some a ∧ w1.cell? ⟨w.heap.size, 1, none⟩ = some b ∧ w1.cell? ⟨w.heap.size, 2, none⟩ = some c ∧ w1.cell? ⟨w.heap.size, 3, none⟩ = some d ∧ Below w.heap.size w w1 := by
  have e1 := (MapKept.heap_alloc w (.cells #[a, b, c, d] t)).1
  have n : ∀ k v, #[a, b, c, d][k]? = some v → (w.alloc (.cells #[a, b, c, d] t)).cell? ⟨w.heap.size, k, none⟩ = some v := by
    intro k v hv
    simp only [World.cell?]
    rw [e1]; simpa using hv
  exact ⟨(hb.cell (p := ⟨w.heap.size, 0, none⟩) (by simp)).trans (n 0 _ rfl), (hb.cell (p := ⟨w.heap.size, 1, none⟩) (by simp)).trans (n 1 _ rfl), (hb.cell (p := ⟨w.heap.size, 2, none⟩) (by simp)).trans (n 2 _ rfl), (hb.cell (p := ⟨w.heap.size, 3, none⟩) (by simp)).trans (n 3 _ rfl), (below_alloc _ _).trans (hb.mono (by simp))⟩

set_option maxHeartbeats 800000 in
theorem szInv (x : I) (rv ev : Value) (n : Int) (w : World) (h : IW w rv ev x) (hf : FineI x) (h0 : 0 ≤ n) (h1 : n ≤ 1048576) :
    Calls Tryz.prog 74 #[iV x rv ev, .int .i64 n] w fun e w' => ∃ r : Int, e = .returned (.int .i64 r) ∧ -1 ≤ r ∧ r ≤ n ∧ (0 ≤ r → FewI x) ∧ Below w.heap.size w w' := by
  have HW := hide h
  have HF := hide hf
  clear h hf
  obtain ⟨no, rows, evs, net, tax, credit⟩ := x
  go_enter Tryz.func74, Tryz.ntmps74
  go_wp2_with (fail)
  refine (BRow.szRows rv rows n _ ((unhide HW).1.kept (below_alloc _ _)) (unhide HF).1.1 (unhide HF).1.2 h0 h1).mono ?_
  rintro x w1 ⟨r, rfl, r1, r2, r3, hb1⟩
  obtain ⟨c0, c1, c2, c3, c4, c5, hB⟩ := box6 _ _ _ _ _ _ _ _ _ hb1
  have HB := hide hB
  have HE := hide ((unhide HW).2.kept hB)
  have R3 := hide r3
  clear hb1 hB r3
  by_cases hr : r < 0
  · go_wp2_with (fail)
    go_ret
    exact ⟨_, rfl, by omega, by omega, fun h => by omega, unhide HB⟩
  · go_wp2_with (fail)
    refine (Evs.szEvs ev evs r _ (unhide HE) (unhide HF).2.1 (unhide HF).2.2 (by omega) (by omega)).mono ?_
    rintro x w2 ⟨r', rfl, r1', r2', r3', hb2⟩
    have HB2 := hide (below_trans (unhide HB) hb2)
    have R3' := hide r3'
    clear hb2 r3' HB
    by_cases hr' : r' < 0
    · go_wp2_with (fail)
      go_ret
      exact ⟨_, rfl, by omega, by omega, fun h => by omega, unhide HB2⟩
    · go_wp2_with (fail)
      go_ret
      exact ⟨_, rfl, by omega, by omega, fun h => ⟨by have := unhide R3 (by omega); simp only; omega, by have := unhide R3' (by omega); simp only; omega⟩, unhide HB2⟩

set_option maxHeartbeats 800000 in
theorem szInvs (v : Value) (l : List I) (n : Int) (w : World) (h : IR w v l) (hf : FineIs l) (h0 : 0 ≤ n) (h1 : n ≤ 1048576) :
    Calls Tryz.prog 30 #[v, .int .i64 n] w fun e w' => ∃ r : Int, e = .returned (.int .i64 r) ∧ -1 ≤ r ∧ r ≤ n ∧ (0 ≤ r → FewIs l) ∧ Below w.heap.size w w' := by
  obtain ⟨hl, hf⟩ := hf
  have HF := hide hf
  clear hf
  unfold maxLen at hl
  by_cases hneg : n - l.length < 0
  · obtain ⟨a, c, rfl⟩ := h.slice
    clear h
    go_enter Tryz.func30, Tryz.ntmps30
    go_wp2
    go_ret
    exact ⟨_, rfl, by omega, by omega, fun h => by omega, Below.refl _ _⟩
  rcases h with ⟨rfl, a, c, rfl⟩ | ⟨b, o, cap, rfl, hc⟩
  · go_enter Tryz.func30, Tryz.ntmps30
    go_wp2
    refine wp_loop_rounds 1 ?_
    rw [rounds_succ]
    go_wp2
    go_ret
    exact ⟨_, rfl, by omega, by omega, fun h => ⟨by simp, by simp⟩, Below.refl _ _⟩
  · have HC := hide hc; clear hc
    go_enter Tryz.func30, Tryz.ntmps30
    go_wp2
    go_loopw [1, 5] (fun t i wr => ∃ (k : Nat) (q : Int), k ≤ l.length ∧ i = .int .i64 k ∧ t = .int .i64 q ∧ 0 ≤ q ∧ q ≤ n ∧ Hid (∀ j, j < k → FewI (l.getD j I0)) ∧ Hid (Below w.heap.size w wr)) (fun _ i _ => l.length - (intOf i).toNat)
    case atStart => exact ⟨0, _, by omega, rfl, rfl, by omega, by omega, hide (fun j hj => by omega), hide (Below.refl _ _)⟩
    case round =>
      obtain ⟨k, q, hk, rfl, rfl, hq0, hq1, hfew, hb⟩ := hrel
      by_cases hlt : k < l.length
      · obtain ⟨rv, ev, h6, hw⟩ := ((unhide HC).kept (unhide hb)).2 k hlt
        obtain ⟨c1, c2, c3, c4, c5, c6⟩ := h6
        have HW := hide hw
        have HFk : Hid (FineI (l.getD k I0)) := hide (unhide HF _ (by simp [List.getD, hlt]))
        have HX : Hid (∀ y, l.getD k I0 = y → FewI y → ∀ j, j < k + 1 → FewI (l.getD j I0)) := hide (fun y hy h j hj => by
          by_cases e : j = k
          · subst e; rw [hy]; exact h
          · exact unhide hfew j (by omega))
        clear hw hfew
        generalize hx : l.getD k I0 = x at *
        have HX := hide (unhide HX x rfl)
        have hno : ∃ no, x.no = no := ⟨_, rfl⟩
        clear hx
        go_wp2_with (fail)
        refine (szInv x rv ev q wr (unhide HW) (unhide HFk) hq0 (by omega)).mono ?_
        rintro e w1 ⟨r, rfl, r1, r2, r3, hb1⟩
        have HB : Hid (Below w.heap.size w w1) := hide (below_trans (unhide hb) hb1)
        have R3 := hide r3
        clear hb hb1 r3
        by_cases hr : r < 0
        · go_wp2
          go_ret
          exact ⟨_, rfl, by omega, by omega, fun h => by omega, unhide HB⟩
        · go_wp2
          exact ⟨⟨k + 1, r, by omega, by go_num, rfl, by omega, by omega, hide (unhide HX (unhide R3 (by omega))), HB⟩, by simp [intOf]; omega⟩
      · have HX : Hid (0 ≤ n → FewIs l) := hide (fun _ => ⟨by omega, fun y hy => by
          obtain ⟨j, hj, rfl⟩ := List.getElem_of_mem hy
          have := unhide hfew j (by omega)
          simpa [List.getD, hj] using this⟩)
        clear hfew
        go_wp2
        go_ret
        exact ⟨_, rfl, by omega, by omega, fun h => unhide HX (by omega), unhide hb⟩

set_option maxHeartbeats 800000 in
theorem szBill (v : Value) (x : B) (n : Int) (w : World) (h : BV w v x) (hf : FineB x) (h0 : 0 ≤ n) (h1 : n ≤ 1048576) :
    Calls Tryz.prog 11 #[v, .int .i64 n] w fun e w' => ∃ r : Int, e = .returned (.int .i64 r) ∧ -1 ≤ r ∧ r ≤ n ∧ (0 ≤ r → FewB x) ∧ Below w.heap.size w w' := by
  obtain ⟨tv, ev, iv, rfl, ht, he, hi⟩ := h
  have HT := hide ht
  have HE := hide he
  have HI := hide hi
  have HF := hide hf
  clear ht he hi hf
  obtain ⟨tar, evs, invs, paid⟩ := x
  go_enter Tryz.func11, Tryz.ntmps11
  go_wp2_with (fail)
  refine (Evs.szLins tv tar n _ ((unhide HT).kept (below_alloc _ _)) (unhide HF).1.1 (unhide HF).1.2 h0 h1).mono ?_
  rintro x w1 ⟨r, rfl, r1, r2, r3, hb1⟩
  obtain ⟨c0, c1, c2, c3, hB⟩ := box4 _ _ _ _ _ _ _ hb1
  have HB := hide hB
  have HE1 := hide ((unhide HE).kept hB)
  have HI1 := hide ((unhide HI).kept hB)
  have R3 := hide r3
  have hlt : w.heap.size < w1.heap.size := Nat.lt_of_lt_of_le (by simp) hb1.size
  clear hb1 hB r3 HE HI HT
  by_cases hr : r < 0
  · go_wp2_with (fail)
    go_ret
    exact ⟨_, rfl, by omega, by omega, fun h => by omega, unhide HB⟩
  · go_wp2_with (fail)
    refine (Evs.szEvs ev evs r _ (unhide HE1) (unhide HF).2.1.1 (unhide HF).2.1.2 (by omega) (by omega)).mono ?_
    rintro x w2 ⟨r', rfl, r1', r2', r3', hb2⟩
    have HB2 := hide (below_trans (unhide HB) hb2)
    have HI2 := hide ((unhide HI1).kept hb2)
    have d2 := (hb2.cell (p := ⟨w.heap.size, 2, none⟩) hlt).trans c2
    have R3' := hide r3'
    clear hb2 r3' HB HI1 HE1 c0 c1 c2 c3
    by_cases hr' : r' < 0
    · go_wp2_with (fail)
      go_ret
      exact ⟨_, rfl, by omega, by omega, fun h => by omega, unhide HB2⟩
    · go_wp2_with (fail)
      refine (szInvs iv invs r' _ (unhide HI2) (unhide HF).2.2 (by omega) (by omega)).mono ?_
      rintro x w3 ⟨r'', rfl, r1'', r2'', r3'', hb3⟩
      have HB3 := hide (below_trans (unhide HB2) hb3)
      have R3'' := hide r3''
      clear hb3 r3'' HB2 HI2
      by_cases hr'' : r'' < 0
      · go_wp2_with (fail)
        go_ret
        exact ⟨_, rfl, by omega, by omega, fun h => by omega, unhide HB3⟩
      · go_wp2_with (fail)
        go_ret
        exact ⟨_, rfl, by omega, by omega, fun h => ⟨by have := unhide R3 (by omega); simp only; omega, by have := unhide R3' (by omega); simp only; omega, unhide R3'' (by omega)⟩, unhide HB3⟩
end Go.Proofs.YtkdaljonmkfdaaaGreatDoor.Bills
end

section
/-
  Invoices that are right: impl.rowSums, impl.invoiceRight.
-/
namespace Go.Proofs.YtkdaljonmkfdaaaGreatDoor.Bill
set_option linter.unusedVariables false
open Go.RowKit RegIn
open Evs (hide unhide below_trans below_drewN' ltS E ER)
open BRow (R R0 RR RC)
open Bills (I I0 IW IR)

/-- the sums of rows -/
def netS (l : List R) : Int := (l.map (·.2.1)).sum
def taxS (l : List R) : Int := (l.map (·.2.2)).sum
theorem sum_take (f : R → Int) (l : List R) (k : Nat) (h : k < l.length) : ((l.take (k + 1)).map f).sum = ((l.take k).map f).sum + f (l.getD k R0) := by
  have e : l.take (k + 1) = l.take k ++ [l.getD k R0] := by rw [List.take_add_one, List.getElem?_eq_getElem h]; simp [List.getD, h]
  rw [e, List.map_append, List.sum_append]
  simp
theorem sum_bd (f : R → Int) (M : Int) : ∀ (l : List R), (∀ x ∈ l, 0 ≤ f x ∧ f x ≤ M) → 0 ≤ (l.map f).sum ∧ (l.map f).sum ≤ l.length * M
  | [], _ => by simp
  | x :: l, h => by
    have := h x (List.mem_cons_self ..)
    have ih := sum_bd f M l (fun y hy => h y (List.mem_cons_of_mem _ hy))
    simp only [List.map_cons, List.sum_cons, List.length_cons]
    have e : ((l.length + 1 : Nat) : Int) * M = l.length * M + M := by rw [Int.natCast_add, Int.add_mul]; simp
    rw [e]
    omega
theorem unitB_iff {n : Int} : unitB n = true ↔ 0 ≤ n ∧ n ≤ 1000000000000000 := by
  unfold unitB
  rw [Bool.and_eq_true, decide_eq_true_eq, Coin.okB_iff]
  omega
theorem okR_facts {l : List R} (h : okR l = true) : l.length ≤ 6 ∧ ∀ x ∈ l, (0 ≤ x.2.1 ∧ x.2.1 ≤ 1000000000000000) ∧ (0 ≤ x.2.2 ∧ x.2.2 ≤ 1000000000000000) := by
  unfold okR at h
  rw [Bool.and_eq_true, decide_eq_true_eq] at h
  refine ⟨h.1, fun x hx => ?_⟩
  obtain ⟨i, hi, rfl⟩ := List.getElem_of_mem hx
  have h2 := List.all_eq_true.1 h.2 i (List.mem_range.2 hi)
  unfold badR at h2
  have e : l.getD i R0 = l[i] := by simp [List.getD, hi]
  rw [e] at h2
  have h3 : rowB l[i] = true := by
    cases hc : rowB l[i]
    · rw [hc] at h2; simp at h2
    · rfl
  unfold rowB at h3
  rw [Bool.and_eq_true, Bool.and_eq_true, unitB_iff, unitB_iff] at h3
  exact ⟨h3.1.2, h3.2⟩
theorem sums_bd {l : List R} (h : okR l = true) (k : Nat) : (0 ≤ netS (l.take k) ∧ netS (l.take k) ≤ 6000000000000000) ∧ (0 ≤ taxS (l.take k) ∧ taxS (l.take k) ≤ 6000000000000000) := by
  obtain ⟨h1, h2⟩ := okR_facts h
  have hl : (l.take k).length ≤ 6 := by simp; omega
  have a := sum_bd (·.2.1) 1000000000000000 (l.take k) (fun x hx => (h2 x (List.mem_of_mem_take hx)).1)
  have b := sum_bd (·.2.2) 1000000000000000 (l.take k) (fun x hx => (h2 x (List.mem_of_mem_take hx)).2)
  unfold netS taxS
  omega

set_option maxHeartbeats 1000000 in
/-- impl.rowSums -/
theorem sumsI (v : Value) (l : List R) (w : World) (h : RR w v l) (hk : okR l = true) :
    Calls Tryz.prog 88 #[v] w fun x w' => x = .returned (.tuple #[.int .i64 (netS l), .int .i64 (taxS l)]) ∧ Below w.heap.size w w' := by
  have h6 := (okR_facts hk).1
  rcases h with ⟨rfl, a, c, rfl⟩ | ⟨b, o, cap, rfl, hc⟩
  · go_enter Tryz.func88, Tryz.ntmps88
    go_wp2
    refine wp_loop_rounds 1 ?_
    rw [rounds_succ]
    go_wp2
    go_ret2
    exact ⟨rfl, Below.refl _ _⟩
  · have HC := hide hc
    have hbs := hc.1
    have HBD := hide (fun k => sums_bd hk k)
    have HST : Hid (∀ k, k < l.length → netS (l.take (k + 1)) = netS (l.take k) + (l.getD k R0).2.1 ∧ taxS (l.take (k + 1)) = taxS (l.take k) + (l.getD k R0).2.2) := hide (fun k hk' => ⟨sum_take (·.2.1) l k hk', sum_take (·.2.2) l k hk'⟩)
    have HF := hide (okR_facts hk).2
    clear hc
    go_enter Tryz.func88, Tryz.ntmps88
    go_wp2
    go_loopw [4, 5, 10] (fun a b i wr => ∃ k : Nat, k ≤ l.length ∧ i = .int .i64 k ∧ a = .int .i64 (netS (l.take k)) ∧ b = .int .i64 (taxS (l.take k)) ∧ Hid (Below w.heap.size w wr)) (fun _ _ i _ => l.length - (intOf i).toNat)
    case atStart => exact ⟨0, Nat.zero_le _, rfl, rfl, rfl, hide (Below.refl _ _)⟩
    case round =>
      obtain ⟨k, hk', rfl, rfl, rfl, hb⟩ := hrel
      by_cases hlt : k < l.length
      · obtain ⟨c0, c1, c2⟩ := ((unhide HC).kept (unhide hb)).2 k hlt
        obtain ⟨s1, s2⟩ := unhide HST k hlt
        have b1 := unhide HBD k
        have b2 := unhide HF (l.getD k R0) (by simp [List.getD, hlt])
        have i1 : (0 : Int) ≤ (k : Int) := by omega
        have i2 : (k : Int) < (l.length : Int) := by omega
        have S1 := hide s1
        have S2 := hide s2
        clear s1 s2
        generalize l.getD k R0 = x at *
        obtain ⟨s, m, q⟩ := x
        simp only at c0 c1 c2 b2 S1 S2
        generalize netS (l.take k) = n1 at *
        generalize taxS (l.take k) = n2 at *
        go_wp2
        exact ⟨⟨k + 1, by omega, by go_num, by rw [unhide S1], by rw [unhide S2], hide ((unhide hb).alloc (unhide hb).size _)⟩, by simp [intOf]; omega⟩
      · obtain rfl : k = l.length := by omega
        rw [List.take_length]
        go_wp2
        go_ret2
        exact ⟨rfl, unhide hb⟩

/-- whether an invoice is right, its number aside -/
def invB (x : I) : Bool := okR x.rows && Evs.okB x.evs && decide (x.net = netS x.rows) && decide (x.tax = taxS x.rows) && Coin.okB (netS x.rows + taxS x.rows) && decide (0 ≤ x.credit ∧ x.credit ≤ netS x.rows + taxS x.rows)

set_option maxRecDepth 20000 in
set_option maxHeartbeats 1600000 in
/-- impl.invoiceRight -/
theorem invI (x : I) (rv ev : Value) (w : World) (h : IW w rv ev x) (h1 : x.rows.length ≤ 1048576) (h2 : ∀ u ∈ x.rows, u.1.size ≤ maxLen) (h3 : x.evs.length ≤ 1048576) (h4 : ∀ u ∈ x.evs, u.1.size ≤ maxLen ∧ u.2.1.size ≤ maxLen) :
    Calls Tryz.prog 41 #[.agg #[.int .i64 x.no, rv, ev, .int .i64 x.net, .int .i64 x.tax, .int .i64 x.credit]] w fun y w' => y = .returned (.bool (invB x)) ∧ Below w.heap.size w w' := by
  obtain ⟨hr, hv⟩ := h
  obtain ⟨ra, rc, rfl⟩ := hr.slice
  obtain ⟨ea, ec, rfl⟩ := hv.slice
  obtain ⟨no, rows, evs, net, tax, credit⟩ := x
  simp only at *
  generalize hz : invB ⟨no, rows, evs, net, tax, credit⟩ = z
  have HZ : Hid ((okR rows && Evs.okB evs && decide (net = netS rows) && decide (tax = taxS rows) && Coin.okB (netS rows + taxS rows) && decide (0 ≤ credit ∧ credit ≤ netS rows + taxS rows)) = z) := hide hz
  have HR := hide hr
  have HV := hide hv
  clear hr hv hz
  go_enter Tryz.func41, Tryz.ntmps41
  go_wp2_with (fail)
  refine (rowsI _ rows _ ((unhide HR).kept (Bills.below_alloc _ _)) h1 h2).mono ?_
  rintro y w1 ⟨rfl, hb1⟩
  obtain ⟨q1, hB, hz1⟩ := Boxes.box1 hb1
  have Q1 := hide q1
  have B1 := hide hB
  clear hb1 hB
  obtain ⟨c2, _⟩ := q1 2 _ rfl
  clear q1
  cases hk : okR rows
  · have hr : z = false := by rw [← unhide HZ, hk]; rfl
    subst hr
    go_wp2_with (fail)
    go_ret
    exact ⟨rfl, unhide B1⟩
  go_wp2_with (fail)
  refine (Evs.okI _ evs w1 ((unhide HV).kept (unhide B1)) h3 h4).mono ?_
  rintro y w2 ⟨rfl, hb2⟩
  have q2 := (unhide Q1).below hb2 (by omega)
  have Q2 := hide q2
  have B2 := hide (below_trans (unhide B1) hb2)
  have hz2 := hb2.size
  obtain ⟨d1, _⟩ := q2 1 _ rfl
  clear hb2 q2 c2
  cases hv : Evs.okB evs
  · have hr : z = false := by rw [← unhide HZ, hk, hv]; rfl
    subst hr
    go_wp2_with (fail)
    go_ret
    exact ⟨rfl, unhide B2⟩
  go_wp2_with (fail)
  refine (sumsI _ rows w2 ((unhide HR).kept (unhide B2)) hk).mono ?_
  rintro y w3 ⟨rfl, hb3⟩
  have q3 := (unhide Q2).below hb3 (by omega)
  have B3 := hide (below_trans (unhide B2) hb3)
  obtain ⟨e3, _⟩ := q3 3 _ rfl
  obtain ⟨e4, _⟩ := q3 4 _ rfl
  obtain ⟨e5, _⟩ := q3 5 _ rfl
  have hbd := sums_bd hk rows.length
  rw [List.take_length] at hbd
  have HZ2 : Hid ((decide (net = netS rows) && decide (tax = taxS rows) && Coin.okB (netS rows + taxS rows) && decide (0 ≤ credit ∧ credit ≤ netS rows + taxS rows)) = z) := hide (by rw [← unhide HZ, hk, hv]; rfl)
  clear hb3 q3 d1 HZ
  generalize netS rows = N at *
  generalize taxS rows = T at *
  obtain ⟨⟨n1, n2⟩, t1, t2⟩ := hbd
  by_cases hN : net = N
  · have bN : (net != N) = false := by simp [hN]
    by_cases hT : tax = T
    · have bT : (tax != T) = false := by simp [hT]
      cases hO : Coin.okB (N + T)
      · have hr : z = false := by rw [← unhide HZ2, hO]; simp
        subst hr
        clear hN hT
        go_wp2_with (first | (go_at_call 42; refine (Coin.okI _ _).mono ?_; rintro e w' ⟨rfl, hw⟩; subst hw; rw [hO]) | fail)
        go_ret
        exact ⟨rfl, unhide B3⟩
      · by_cases hC0 : 0 ≤ credit
        · have bC0 : decide (0 ≤ credit) = true := decide_eq_true hC0
          by_cases hC1 : credit ≤ N + T
          · have hr : z = true := by rw [← unhide HZ2, hO, decide_eq_true hN, decide_eq_true hT, decide_eq_true ⟨hC0, hC1⟩]; rfl
            have bC1 : decide (credit ≤ N + T) = true := decide_eq_true hC1
            subst hr
            clear hN hT
            go_wp2_with (first | (go_at_call 42; refine (Coin.okI _ _).mono ?_; rintro e w' ⟨rfl, hw⟩; subst hw; rw [hO]) | fail)
            go_ret
            exact ⟨rfl, unhide B3⟩
          · have hr : z = false := by rw [← unhide HZ2, decide_eq_false (show ¬ (0 ≤ credit ∧ credit ≤ N + T) from fun h => hC1 h.2)]; simp
            have bC1 : decide (credit ≤ N + T) = false := decide_eq_false hC1
            subst hr
            clear hN hT
            go_wp2_with (first | (go_at_call 42; refine (Coin.okI _ _).mono ?_; rintro e w' ⟨rfl, hw⟩; subst hw; rw [hO]) | fail)
            go_ret
            exact ⟨rfl, unhide B3⟩
        · have hr : z = false := by rw [← unhide HZ2, decide_eq_false (show ¬ (0 ≤ credit ∧ credit ≤ N + T) from fun h => hC0 h.1)]; simp
          have bC0 : decide (0 ≤ credit) = false := decide_eq_false hC0
          subst hr
          clear hN hT
          go_wp2_with (first | (go_at_call 42; refine (Coin.okI _ _).mono ?_; rintro e w' ⟨rfl, hw⟩; subst hw; rw [hO]) | fail)
          go_ret
          exact ⟨rfl, unhide B3⟩
    · have bT : (tax != T) = true := by simp [hT]
      have hr : z = false := by rw [← unhide HZ2, decide_eq_false hT]; simp
      subst hr
      clear hN hT
      go_wp2_with (fail)
      go_ret
      exact ⟨rfl, unhide B3⟩
  · have bN : (net != N) = true := by simp [hN]
    have hr : z = false := by rw [← unhide HZ2, decide_eq_false hN]; simp
    subst hr
    clear hN
    go_wp2_with (fail)
    go_ret
    exact ⟨rfl, unhide B3⟩
end Go.Proofs.YtkdaljonmkfdaaaGreatDoor.Bill
end

section
/-
  impl.readOwn.
-/
namespace Go.Proofs.YtkdaljonmkfdaaaGreatDoor.Rule
set_option linter.unusedVariables false
open Go.RowKit
open Tiers (T T0 TR hide unhide below_trans)
open Kinds hiding hide unhide below_trans ext_toList

abbrev cells2 (t : T) : List Value := [.int .i64 t.1, .int .i64 t.2]
def flatT (l : List T) : List Value := l.flatMap cells2
theorem flatT_len : ∀ l : List T, (flatT l).length = l.length * 2
  | [] => rfl
  | x :: l => by
    have e : flatT (x :: l) = cells2 x ++ flatT l := rfl
    rw [e, List.length_append, flatT_len l, List.length_cons]
    show 2 + l.length * 2 = (l.length + 1) * 2
    omega
theorem flatT_get : ∀ (l : List T) (i : Nat) (x : T), l[i]? = some x → ∀ j u, j < 2 → (cells2 x)[j]? = some u → (flatT l)[i * 2 + j]? = some u
  | [], i, x, h, _, _, _, _ => by simp at h
  | y :: l, 0, x, h, j, u, hj, hu => by
    simp at h; subst h
    have e : flatT (y :: l) = cells2 y ++ flatT l := rfl
    rw [e, Nat.zero_mul, Nat.zero_add, List.getElem?_append_left (by show j < 2; omega)]
    exact hu
  | y :: l, i + 1, x, h, j, u, hj, hu => by
    simp only [List.getElem?_cons_succ] at h
    have e : flatT (y :: l) = cells2 y ++ flatT l := rfl
    rw [e, List.getElem?_append_right (by show 2 ≤ _; omega)]
    have e3 : (i + 1) * 2 + j - (cells2 y).length = i * 2 + j := by show (i + 1) * 2 + j - 2 = _; omega
    rw [e3]
    exact flatT_get l i x h j u hj hu
/-- steps in a row of the call's own -/
def TO (W : World) (B : Nat) (v : Value) (l : List T) : Prop := W.ownsRow B 107 2 v l.length (flatT l)
theorem TO.nil (W : World) (B : Nat) : TO W B (.slice none 0 0) [] := ⟨rfl, .inl ⟨rfl, rfl⟩⟩
theorem TO.blk {W : World} {B : Nat} {v : Value} {l : List T} (h : TO W B v l) : ∀ q, v.ownBlock = some q → B ≤ q ∧ q < W.heap.size := World.ownsRow.lt h
theorem TO.kept {W W' : World} {B : Nat} {v : Value} {l : List T} {r : Option Nat} (h : TO W B v l) (hg : W.grownBy W' r) (hr : ∀ q, r = some q → q < B) : TO W' B v l :=
  World.ownsRow.kept (row := r) h hg (by
    cases h1 : v.ownBlock with
    | none => exact .inl rfl
    | some q => exact .inr (fun e => by have := (h.blk q h1).1; have := hr q e.symm; omega))
theorem TO.form {W : World} {B : Nat} {v : Value} {l : List T} (h : TO W B v l) : ∃ a c, v = .slice a l.length c := by
  obtain ⟨h1, h2⟩ := h
  rcases h2 with ⟨rfl, h0⟩ | ⟨g, cap, cur, rfl, _⟩
  · exact ⟨none, 0, by rw [h0]⟩
  · exact ⟨_, _, rfl⟩
theorem TO.ot {W : World} {B : Nat} {v : Value} {l : List T} (h : TO W B v l) (hB : B ≤ W.heap.size) : OT B W.heap.size W v l := by
  have ho := h
  have hb := h.blk
  obtain ⟨h1, h2⟩ := h
  refine ⟨hB, ?_⟩
  rcases h2 with ⟨rfl, h0⟩ | ⟨g, cap, cur, rfl, hBg, hg, _⟩
  · obtain rfl := List.length_eq_zero_iff.1 h0
    exact .inl ⟨rfl, _, _, rfl⟩
  · refine .inr ⟨g, cap, rfl, hBg, (hb g rfl).2, fun i hi => ?_, fun j => ?_⟩
    · have hx : l[i]? = some l[i] := List.getElem?_eq_getElem hi
      have e : l.getD i T0 = l[i] := by simp [List.getD, hi]
      rw [e]
      have hc : ∀ j u, j < 2 → (cells2 l[i])[j]? = some u → W.cell? ⟨g, i * 2 + j, none⟩ = some u := fun j u hj hu => by
        have := World.ownsRow.cells ho rfl (i * 2 + j) u (flatT_get l i _ hx j u hj hu)
        rw [Addr.add_lit, Nat.zero_add] at this
        exact this
      exact ⟨hc 0 _ (by omega) rfl, hc 1 _ (by omega) rfl⟩
    · simp only [World.frozen?]
      rw [hg]; simp
theorem infoT' : (Tryz.prog.info? 107).map (fun i => (i.zero, i.size, i.bytes)) = some (some (.agg #[.int .i64 0, .int .i64 0]), 2, 16) := by kernel_rfl

/-- what lies below B, the block eb aside, is as it was -/
structure KeepB (eb B : Nat) (w w' : World) : Prop where
  os : w'.os = w.os
  tape : w'.tape = w.tape
  output : w'.output = w.output
  size : w.heap.size ≤ w'.heap.size
  block : ∀ j, j < B → j < w.heap.size → j ≠ eb → w'.heap[j]? = w.heap[j]?
theorem KeepB.refl (eb B : Nat) (w : World) : KeepB eb B w w := ⟨rfl, rfl, rfl, Nat.le_refl _, fun _ _ _ _ => rfl⟩
theorem KeepB.trans {eb B : Nat} {a b c : World} (h : KeepB eb B a b) (k : KeepB eb B b c) : KeepB eb B a c :=
  ⟨k.os.trans h.os, k.tape.trans h.tape, k.output.trans h.output, Nat.le_trans h.size k.size, fun j h1 h2 h3 => (k.block j h1 (Nat.lt_of_lt_of_le h2 h.size) h3).trans (h.block j h1 h2 h3)⟩
theorem KeepB.below {eb B : Nat} {a b : World} (h : Below a.heap.size a b) : KeepB eb B a b := ⟨h.os, h.tape, h.output, h.size, fun j _ h2 _ => h.block j h2⟩
theorem KeepB.set {eb B : Nat} (w : World) (k : Nat) (u : Value) : KeepB eb B w (w.setCell ⟨eb, k, none⟩ u) := ⟨rfl, rfl, rfl, by simp, fun j _ _ h3 => Below.heap_setCell w ⟨eb, k, none⟩ u j (by simpa using h3)⟩
theorem KeepB.grown {eb B : Nat} {a b : World} {r : Option Nat} (h : a.grownBy b r) (hr : ∀ q, r = some q → B ≤ q) : KeepB eb B a b := ⟨h.os, h.tape, h.output, h.size, fun j h1 h2 _ => h.block j h2 (fun e => by have := hr j e.symm; omega)⟩

section
variable {ops : Array Oper} {o : Oper} {a : Act} {K : Act → World → Prop} {Q : Exit → Act → World → Prop} {E : Prop}
theorem listAppT (w : World) {rest : List Oper} (hgd : o.guard = none) (s x : Operand) (ho : o.op = .call { callee := .builtin .append, args := #[s, x], argTypes := #[23, 23] })
    (B N n : Nat) (v : Value) (l : List T) (q : T) (hn : l.length = n) (hs : a.eval s = v) (hv : TO w B v l) (hx : a.eval x = .slice (some ⟨N, 0, none⟩) 1 1) (hN : w.heap[N]? = some (.cells (cells2 q).toArray 107 (0, 0))) (hl : l.length ≤ 1000000) (hB : B ≤ w.heap.size)
    (h : ∀ g c w', TO w' B (.slice (some ⟨g, 0, none⟩) (n + 1) c) (l ++ [q]) → w.grownBy w' v.ownBlock → wpList Tryz.prog ops Q rest (a.put o.dst (.slice (some ⟨g, 0, none⟩) (n + 1) c)) w') :
    wpList Tryz.prog ops Q (o :: rest) a w := by
  subst hn
  obtain ⟨i, hi, h2⟩ := Option.map_eq_some_iff.1 infoT'
  simp only [Prod.mk.injEq] at h2
  refine wpList_append_lies (P := Tryz.prog) w hgd s x 23 ho B 107 i _ 2 16 Tryz.underlying23 hi h2.1 h2.2.1 h2.2.2 rfl (by omega) v l.length (flatT l) hs hv ⟨N, 0, none⟩ 1 1 (cells2 q) hx rfl (World.news_of_block hN) (fun u hu => by simp only [cells2, List.mem_cons, List.not_mem_nil, or_false] at hu; rcases hu with rfl | rfl <;> rfl) (by omega) (by unfold maxLen; omega) (by omega) hB _ rfl ?_
  intro g c w' h1 h3 _ _
  refine h g c w' ?_ h3
  have e : flatT (l ++ [q]) = flatT l ++ cells2 q := by simp [flatT]
  unfold TO
  rw [e, List.length_append]
  exact h1
end

set_option maxRecDepth 20000 in
set_option maxHeartbeats 1000000 in
/-- impl.readOwn -/
theorem ownWI (eb B : Nat) (wd : List UInt8) (k n : Int) (m : ByteArray) (kv tv : Value) (ts : List T) (w : World) (hs : wd.length ≤ 1000000) (he : Text.Env w) (hbx : Boxes.At w eb [.int .i64 k, .int .i64 n, .string m, kv, tv]) (hT : TO w B tv ts) (hl : ts.length ≤ 1000000) (heB : eb < B) (hB : B ≤ w.heap.size) :
    Calls Tryz.prog 67 #[.pointer (some ⟨eb, 0, none⟩), .string (bytesOf wd)] w fun x w' => x = .returned (.tuple #[]) ∧ ∃ n' tv' ts', OwnI wd n ts n' ts' ∧ Boxes.At w' eb [.int .i64 k, .int .i64 n', .string m, kv, tv'] ∧ TO w' B tv' ts' ∧ KeepB eb B w w' := by
  have hl' : (bytesOf wd).size = wd.length := bsize wd
  have hd : (bytesOf wd).data.toList = wd := by simp [bytesOf]
  obtain ⟨mx, hmx⟩ := he.2.1
  have hcut := Tryz.strings_Cut (bytesOf wd) ⟨#[58]⟩ mx w (by omega) hmx
  rw [hd] at hcut
  have e58 : (⟨#[58]⟩ : ByteArray).data.toList = [58] := rfl
  rw [e58] at hcut
  have hlen := cut_len2 58 wd
  have HO : Hid (∀ n' ts', (((Lib.cut wd [58]).2.2 = false ∧ valI (Lib.cut wd [58]).1 n' ∧ ts' = ts) ∨ ((Lib.cut wd [58]).2.2 = true ∧ n' = n ∧ ∃ a b, valI (Lib.cut wd [58]).1 a ∧ valI (Lib.cut wd [58]).2.1 b ∧ ts' = ts ++ [(a, b)])) → OwnI wd n ts n' ts') := hide (fun n' ts' h => h)
  generalize (Lib.cut wd [58]).1 = W1 at *
  generalize (Lib.cut wd [58]).2.1 = W2 at *
  generalize (Lib.cut wd [58]).2.2 = fnd at *
  have HC := hide hcut
  have HE := hide he
  have HBX := hide hbx
  have HT := hide hT
  have hebw : eb < w.heap.size := by omega
  obtain ⟨ta, tc, htf⟩ := hT.form
  clear hcut he hbx hT e58 hmx
  go_enter Tryz.func67, Tryz.ntmps67
  go_wp2_with (fail)
  refine (unhide HC).mono ?_
  rintro x w1 ⟨rfl, nd, rfl⟩
  have B1 : Hid (Below w.heap.size w (w.drewN nd)) := hide (Text.below_drew nd)
  generalize w.drewN nd = w1 at *
  go_wp2_with (fail)
  refine (atoiC ⟨W1.toArray⟩ w1 (by simp [ByteArray.size]; omega) ((unhide HE).kept (unhide B1))).mono ?_
  rintro x w2 ⟨a1, er, rfl, hA1, hb2⟩
  have HV1 : Hid (valI W1 a1) := hide (fun k' hk' => by
    rcases hA1 with ⟨h, _⟩ | ⟨h, _⟩
    · have h' : Lib.atoiAll W1 = .ok a1 := by simpa using h
      rw [h'] at hk'; cases hk'; rfl
    · exact absurd hk' (by simpa using h k'))
  have B2 := hide (below_trans (unhide B1) hb2)
  clear hA1 hb2
  cases fnd
  · have hb := (unhide HBX).below (unhide B2) hebw
    obtain ⟨c1, f1⟩ := hb 1 _ rfl
    have HB2 := hide hb
    clear hb
    go_wp2_with (fail)
    refine bodyPost_ret (v := .tuple #[]) (by simp [results, Tryz.results67, go_sem]) rfl ?_
    exact ⟨rfl, a1, tv, ts, unhide HO _ _ (.inl ⟨by trivial, unhide HV1, rfl⟩), (unhide HB2).set 1 _, ((unhide HT).kept (r := none) ⟨(unhide B2).os, (unhide B2).tape, (unhide B2).output, (unhide B2).size, fun j hj _ => (unhide B2).block j hj⟩ (fun q hq => by cases hq)).kept (r := some eb) (Evs.growS _ _ _ _) (fun q hq => by cases hq; omega), (KeepB.below (unhide B2)).trans (KeepB.set _ _ _)⟩
  · go_wp2_with (fail)
    refine (atoiC ⟨W2.toArray⟩ w2 (by simp [ByteArray.size]; omega) ((unhide HE).kept (unhide B2))).mono ?_
    rintro x w3 ⟨a2, er2, rfl, hA2, hb3⟩
    have HV2 : Hid (valI W2 a2) := hide (fun k' hk' => by
      rcases hA2 with ⟨h, _⟩ | ⟨h, _⟩
      · have h' : Lib.atoiAll W2 = .ok a2 := by simpa using h
        rw [h'] at hk'; cases hk'; rfl
      · exact absurd hk' (by simpa using h k'))
    have B3 := hide (below_trans (unhide B2) hb3)
    clear hA2 hb3
    have hb := (unhide HBX).below (unhide B3) hebw
    obtain ⟨c4, f4⟩ := hb 4 _ rfl
    have HB3 := hide hb
    have HT3 := hide ((unhide HT).kept (r := none) ⟨(unhide B3).os, (unhide B3).tape, (unhide B3).output, (unhide B3).size, fun j hj _ => (unhide B3).block j hj⟩ (fun q hq => by cases hq))
    clear hb
    have HN3 : Hid ((w3.alloc (.cells #[.int .i64 a1, .int .i64 a2] 107)).heap[w3.heap.size]? = some (.cells (cells2 (a1, a2)).toArray 107 (0, 0))) := hide (MapKept.heap_alloc _ _).1
    have HT4 := hide ((unhide HT3).kept (r := none) (Evs.growB (below_alloc w3 (.cells #[.int .i64 a1, .int .i64 a2] 107)) none) (fun q hq => by cases hq))
    have hz3 := (unhide B3).size
    have HG : Hid (∀ W4, (w3.alloc (.cells #[.int .i64 a1, .int .i64 a2] 107)).grownBy W4 tv.ownBlock → KeepB eb B w W4 ∧ W4.heap[eb]? = w3.heap[eb]?) := hide (fun W4 hg => by
      have hq : ∀ q, tv.ownBlock = some q → B ≤ q := fun q hq => ((unhide HT4).blk q hq).1
      refine ⟨((KeepB.below (unhide B3)).trans (KeepB.below (below_alloc _ _))).trans (KeepB.grown hg hq), ?_⟩
      rw [hg.block eb (by simp; omega) (fun e => by have := hq eb e.symm; omega)]
      exact Below.heap_alloc _ _ _ (by omega))
    rw [htf] at c4 HT4 HG
    go_wp2_with (first | (at_builtin; refine listAppT _ rfl _ _ rfl B w3.heap.size ts.length _ ts (a1, a2) rfl rfl (unhide HT4) rfl (unhide HN3) hl (by simp; omega) ?_; intro g c w4 h1 h2; obtain ⟨kb4, e4⟩ := unhide HG w4 h2; have T4 := hide h1; have KB4 := hide kb4; have hA4 := (unhide HB3).kept e4; have HA4 := hide hA4; obtain ⟨d4, g4⟩ := hA4 4 _ rfl; clear h1 h2 kb4 e4 hA4) | fail)
    go_end0
    exact ⟨rfl, n, _, ts ++ [(a1, a2)], unhide HO _ _ (.inr ⟨by trivial, rfl, a1, a2, unhide HV1, unhide HV2, rfl⟩), (unhide HA4).set 4 _, by
      have := (unhide T4).kept (r := some eb) (Evs.growS w4 eb 4 (.slice (some ⟨g, 0, none⟩) (ts.length + 1) c)) (fun q hq => by cases hq; omega)
      exact this, (unhide KB4).trans (KeepB.set _ _ _)⟩
end Go.Proofs.YtkdaljonmkfdaaaGreatDoor.Rule
end

section
/-
  The laws' own marks on steps: markRuleTierS, heldRuleTierS.
-/
namespace Go.Proofs.YtkdaljonmkfdaaaGreatDoor.Rule
set_option linter.unusedVariables false
open Go.RowKit
open Tiers (T T0 TR hide unhide below_trans)

/-- what lies outside of the blocks from lo on and below hi is as it was -/
structure Out (lo hi : Nat) (w w' : World) : Prop where
  os : w'.os = w.os
  tape : w'.tape = w.tape
  output : w'.output = w.output
  size : w.heap.size ≤ w'.heap.size
  block : ∀ j, j < w.heap.size → ¬ (lo ≤ j ∧ j < hi) → w'.heap[j]? = w.heap[j]?
theorem Out.refl (lo hi : Nat) (w : World) : Out lo hi w w := ⟨rfl, rfl, rfl, Nat.le_refl _, fun _ _ _ => rfl⟩
theorem Out.trans {lo hi : Nat} {a b c : World} (h : Out lo hi a b) (k : Out lo hi b c) : Out lo hi a c :=
  ⟨k.os.trans h.os, k.tape.trans h.tape, k.output.trans h.output, Nat.le_trans h.size k.size, fun j hj hn => (k.block j (Nat.lt_of_lt_of_le hj h.size) hn).trans (h.block j hj hn)⟩
theorem Out.mono {lo hi lo' hi' : Nat} {a b : World} (h : Out lo hi a b) (h1 : lo' ≤ lo) (h2 : hi ≤ hi') : Out lo' hi' a b :=
  ⟨h.os, h.tape, h.output, h.size, fun j hj hn => h.block j hj (by omega)⟩
theorem Out.set {lo hi : Nat} (w : World) (b o : Nat) (u : Value) (h1 : lo ≤ b) (h2 : b < hi) : Out lo hi w (w.setCell ⟨b, o, none⟩ u) := by
  refine ⟨rfl, rfl, rfl, by simp, fun j hj hn => ?_⟩
  exact Below.heap_setCell w ⟨b, o, none⟩ u j (fun e => hn (by simp at e; omega))
theorem Out.below {lo hi : Nat} {a b : World} (h : Below a.heap.size a b) : Out lo hi a b := ⟨h.os, h.tape, h.output, h.size, fun j hj _ => h.block j hj⟩
theorem Out.same {lo hi s e : Nat} {a b : World} (h : Out lo hi a b) (hd : e ≤ lo ∨ hi ≤ s) (he : e ≤ a.heap.size) : Same s e a b := fun j j1 j2 => h.block j (by omega) (by omega)
theorem Out.toBelow {lo hi : Nat} {a b : World} (h : Out lo hi a b) {B : Nat} (hB : B ≤ lo) (hs : B ≤ a.heap.size) : Below B a b := ⟨h.os, h.tape, h.output, h.size, fun j hj => h.block j (by omega) (by omega)⟩

/-- a row of steps in a block -/
def RowT (W : World) (b : Nat) (l : List T) : Prop := (∀ i, i < l.length → W.cell? ⟨b, i * 2, none⟩ = some (.int .i64 (l.getD i T0).1) ∧ W.cell? ⟨b, i * 2 + 1, none⟩ = some (.int .i64 (l.getD i T0).2)) ∧ ∀ j, W.frozen? ⟨b, j, none⟩ = false
theorem RowT.setA {W : World} {b : Nat} {l : List T} (h : RowT W b l) {k : Nat} (hk : k < l.length) (q : Int) : RowT (W.setCell ⟨b, k * 2, none⟩ (.int .i64 q)) b (l.set k (q, (l.getD k T0).2)) := by
  refine ⟨fun i hi => ?_, fun j => by simpa [World.frozen?_setCell] using h.2 j⟩
  have hi' : i < l.length := by simpa using hi
  obtain ⟨c0, c1⟩ := h.1 i hi'
  have d1 : (⟨b, k * 2, none⟩ : Addr) ≠ ⟨b, i * 2 + 1, none⟩ := fun he => by simp only [Addr.mk.injEq, and_true, true_and] at he; omega
  by_cases e : i = k
  · subst e
    rw [List.getD_eq_getElem?_getD, List.getElem?_set_self hi']
    exact ⟨World.cell?_setCell_same _ _ _ c0, by rw [World.cell?_setCell_other _ _ _ _ d1]; exact c1⟩
  · have d0 : (⟨b, k * 2, none⟩ : Addr) ≠ ⟨b, i * 2, none⟩ := fun he => by simp only [Addr.mk.injEq, and_true, true_and] at he; omega
    rw [World.cell?_setCell_other _ _ _ _ d0, World.cell?_setCell_other _ _ _ _ d1, c0, c1, List.getD_eq_getElem?_getD, List.getD_eq_getElem?_getD, List.getElem?_set_ne (by omega)]
    exact ⟨rfl, rfl⟩
theorem RowT.setB {W : World} {b : Nat} {l : List T} (h : RowT W b l) {k : Nat} (hk : k < l.length) (q : Int) : RowT (W.setCell ⟨b, k * 2 + 1, none⟩ (.int .i64 q)) b (l.set k ((l.getD k T0).1, q)) := by
  refine ⟨fun i hi => ?_, fun j => by simpa [World.frozen?_setCell] using h.2 j⟩
  have hi' : i < l.length := by simpa using hi
  obtain ⟨c0, c1⟩ := h.1 i hi'
  have d0 : (⟨b, k * 2 + 1, none⟩ : Addr) ≠ ⟨b, i * 2, none⟩ := fun he => by simp only [Addr.mk.injEq, and_true, true_and] at he; omega
  by_cases e : i = k
  · subst e
    rw [List.getD_eq_getElem?_getD, List.getElem?_set_self hi']
    exact ⟨by rw [World.cell?_setCell_other _ _ _ _ d0]; exact c0, World.cell?_setCell_same _ _ _ c1⟩
  · have d1 : (⟨b, k * 2 + 1, none⟩ : Addr) ≠ ⟨b, i * 2 + 1, none⟩ := fun he => by simp only [Addr.mk.injEq, and_true, true_and] at he; omega
    rw [World.cell?_setCell_other _ _ _ _ d0, World.cell?_setCell_other _ _ _ _ d1, c0, c1, List.getD_eq_getElem?_getD, List.getD_eq_getElem?_getD, List.getElem?_set_ne (by omega)]
    exact ⟨rfl, rfl⟩
theorem marksT_step (k : Nat) (l : List T) (j : Nat) (h : j < l.length) : (marksT k j ++ l.drop j).set j (((k + 2 * j : Nat) : Int), ((k + 2 * j + 1 : Nat) : Int)) = marksT k (j + 1) ++ l.drop (j + 1) := by
  rw [List.set_append_right _ _ (by rw [marksT_len]; exact Nat.le_refl _), marksT_len, Nat.sub_self, List.drop_eq_getElem_cons h, List.set_cons_zero]
  have e : marksT k (j + 1) = marksT k j ++ [(((k + 2 * j : Nat) : Int), ((k + 2 * j + 1 : Nat) : Int))] := by
    unfold marksT
    rw [List.range_succ, List.map_append]
    rfl
  rw [e, List.append_assoc]
  rfl
theorem getD_setT {L : List T} {j : Nat} (h : j < L.length) (y : T) : (L.set j y).getD j T0 = y := by simp [List.getD, h]

set_option maxHeartbeats 1000000 in
/-- markRuleTierS -/
theorem markTiers (lo hi : Nat) (v : Value) (l : List T) (k : Nat) (w : World) (h : OT lo hi w v l) (hl : l.length ≤ 1048576) (h0 : 1 ≤ k) (h1 : k ≤ 10000000) :
    Calls Tryz.prog 25 #[v, .int .i64 (k : Int)] w fun e w' => e = .returned (.int .i64 ((k + 2 * l.length : Nat) : Int)) ∧ OT lo hi w' v (marksT k l.length) ∧ Out lo hi w w' := by
  obtain ⟨hle, ⟨rfl, a, c, rfl⟩ | ⟨b, cap, rfl, hB1, hB2, hO⟩⟩ := h
  · go_enter Tryz.func25, Tryz.ntmps25
    go_wp2
    refine wp_loop_rounds 1 ?_
    rw [rounds_succ]
    go_wp2
    go_ret
    exact ⟨by simp, OT.nil _ _ hle, Out.refl _ _ _⟩
  · have HO : Hid (RowT w b l) := hide hO
    clear hO
    go_enter Tryz.func25, Tryz.ntmps25
    go_wp2
    go_loopw [1, 5] (fun t i wr => ∃ j : Nat, j ≤ l.length ∧ i = .int .i64 j ∧ t = .int .i64 ((k + 2 * j : Nat) : Int) ∧ Hid (RowT wr b (marksT k j ++ l.drop j)) ∧ Hid (Out lo hi w wr)) (fun _ i _ => l.length - (intOf i).toNat)
    case atStart => exact ⟨0, Nat.zero_le _, rfl, by simp, by show RowT _ _ _; simpa [marksT] using unhide HO, hide (Out.refl _ _ _)⟩
    case round =>
      obtain ⟨j, hj, rfl, rfl, hd, hg⟩ := hrel
      by_cases hlt : j < l.length
      · have hj2 : j < (marksT k j ++ l.drop j).length := by rw [List.length_append, marksT_len, List.length_drop]; omega
        have HS := hide (marksT_step k l j hlt)
        generalize marksT k j ++ l.drop j = L at *
        have i1 : (0 : Int) ≤ (j : Int) := by omega
        have i2 : (j : Int) < (l.length : Int) := by omega
        have ho1 := unhide hd
        obtain ⟨c0, _⟩ := ho1.1 j hj2
        have f0 := ho1.2 (j * 2)
        have ho2 := ho1.setA hj2 ((k + 2 * j : Nat) : Int)
        have hj3 : j < (L.set j (((k + 2 * j : Nat) : Int), (L.getD j T0).2)).length := by simpa using hj2
        obtain ⟨_, c1⟩ := ho2.1 j hj3
        have f1 := ho1.2 (j * 2 + 1)
        have ho3 := ho2.setB hj3 ((k + 2 * j + 1 : Nat) : Int)
        rw [getD_setT hj2, List.set_set] at ho3
        rw [unhide HS] at ho3
        have O3 := hide ho3
        have G3 := hide ((unhide hg).trans ((Out.set wr b (j * 2) (.int .i64 ((k + 2 * j : Nat) : Int)) hB1 hB2).trans (Out.set _ b (j * 2 + 1) (.int .i64 ((k + 2 * j + 1 : Nat) : Int)) hB1 hB2)))
        have e1 : ((k + 2 * j : Nat) : Int) + 1 = ((k + 2 * j + 1 : Nat) : Int) := by omega
        clear ho1 ho2 ho3 hd hg hj3 HS
        go_wp2
        exact ⟨⟨j + 1, by omega, by go_num, by congr 1, O3, G3⟩, by simp [intOf]; omega⟩
      · obtain rfl : j = l.length := by omega
        go_wp2
        go_ret
        refine ⟨rfl, ⟨hle, .inr ⟨b, cap, by rw [marksT_len], hB1, hB2, ?_⟩⟩, unhide hg⟩
        have := unhide hd
        simpa [RowT] using this

set_option maxHeartbeats 1000000 in
/-- heldRuleTierS, of a row that holds its marks -/
theorem heldTiers (lo hi : Nat) (v : Value) (n k : Nat) (w : World) (h : TL lo hi w v (marksT k n)) (hl : n ≤ 1048576) (h0 : 1 ≤ k) (h1 : k ≤ 10000000) :
    Calls Tryz.prog 27 #[v, .int .i64 (k : Int)] w fun e w' => e = .returned (.int .i64 ((k + 2 * n : Nat) : Int)) ∧ w' = w := by
  rcases h with ⟨hn, a, c, rfl⟩ | ⟨b, o, cap, rfl, hb1, hb2, hc⟩
  · have : n = 0 := by have := congrArg List.length hn; rw [marksT_len] at this; exact this
    subst this
    clear hn
    go_enter Tryz.func27, Tryz.ntmps27
    go_wp2
    refine wp_loop_rounds 1 ?_
    rw [rounds_succ]
    go_wp2
    go_ret
    exact ⟨by simp, rfl⟩
  · rw [marksT_len] at *
    have HC := hide hc
    clear hc
    go_enter Tryz.func27, Tryz.ntmps27
    go_wp2
    go_loopw [1, 5] (fun t i wr => ∃ j : Nat, j ≤ n ∧ i = .int .i64 j ∧ t = .int .i64 ((k + 2 * j : Nat) : Int) ∧ wr = w) (fun _ i _ => n - (intOf i).toNat)
    case atStart => exact ⟨0, Nat.zero_le _, rfl, by simp, rfl⟩
    case round =>
      obtain ⟨j, hj, rfl, rfl, rfl⟩ := hrel
      by_cases hlt : j < n
      · obtain ⟨c0, c1⟩ := unhide HC j hlt
        rw [marksT_get hlt] at c0 c1
        have i1 : (0 : Int) ≤ (j : Int) := by omega
        have i2 : (j : Int) < (n : Int) := by omega
        have q1 : (((k + 2 * j : Nat) : Int) != ((k + 2 * j : Nat) : Int)) = false := by simp
        have e1 : ((k + 2 * j : Nat) : Int) + 1 = ((k + 2 * j + 1 : Nat) : Int) := by omega
        have q2 : (((k + 2 * j + 1 : Nat) : Int) != ((k + 2 * j + 1 : Nat) : Int)) = false := by simp
        go_wp2
        exact ⟨⟨j + 1, by omega, by go_num, by congr 1, trivial⟩, by simp [intOf]; omega⟩
      · obtain rfl : j = n := by omega
        go_wp2
        go_ret
        exact ⟨rfl, rfl⟩
end Go.Proofs.YtkdaljonmkfdaaaGreatDoor.Rule
end
