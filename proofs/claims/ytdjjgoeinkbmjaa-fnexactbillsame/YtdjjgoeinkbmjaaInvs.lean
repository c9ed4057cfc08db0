/-
  Invoices and bills in memory, and the laws' own helpers on them: size, copy, compare.
-/
import Derived.Test.YtdjjgoeinkbmjaaLins
import Derived.Test.YtdjjgoeinkbmjaaBRow
namespace Go.Proofs.Ytdjjgoeinkbmjaa.Bills
set_option linter.unusedVariables false
open Go.RowKit
open Evs (E E0 ER EN EC EOwn)
open BRow (R R0 RR RN RC ROwn)

theorem hide {p : Prop} (h : p) : Hid p := h
theorem unhide {p : Prop} (h : Hid p) : p := h
theorem below_trans {w w1 w2 : World} (h : Below w.heap.size w w1) (k : Below w1.heap.size w1 w2) : Below w.heap.size w w2 := h.trans (k.mono h.size)
theorem below_alloc (w : World) (o : Obj) : Below w.heap.size w (w.alloc o) := (Below.refl _ _).alloc (Nat.le_refl _) o

/-- an invoice -/
structure I where
  no : Int
  rows : List R
  evs : List E
  net : Int
  tax : Int
  credit : Int
  deriving DecidableEq, Inhabited
abbrev I0 : I := ⟨0, [], [], 0, 0, 0⟩
/-- a bill -/
structure B where
  tar : List E
  evs : List E
  invs : List I
  paid : Int
  deriving DecidableEq, Inhabited

/-- an invoice as a value -/
abbrev iV (x : I) (rv ev : Value) : Value := .agg #[.int .i64 x.no, rv, ev, .int .i64 x.net, .int .i64 x.tax, .int .i64 x.credit]
/-- the cells of one invoice -/
def I6 (W : World) (b o : Nat) (x : I) (rv ev : Value) : Prop :=
  W.cell? ⟨b, o, none⟩ = some (.int .i64 x.no) ∧ W.cell? ⟨b, o + 1, none⟩ = some rv ∧ W.cell? ⟨b, o + 2, none⟩ = some ev ∧ W.cell? ⟨b, o + 3, none⟩ = some (.int .i64 x.net) ∧ W.cell? ⟨b, o + 4, none⟩ = some (.int .i64 x.tax) ∧ W.cell? ⟨b, o + 5, none⟩ = some (.int .i64 x.credit)
/-- what hangs on an invoice -/
def IW (W : World) (rv ev : Value) (x : I) : Prop := RR W rv x.rows ∧ ER W ev x.evs
/-- from o on block b holds the invoices l -/
def IC (W : World) (b o : Nat) (l : List I) : Prop := b < W.heap.size ∧ ∀ i, i < l.length → ∃ rv ev, I6 W b (o + i * 6) (l.getD i I0) rv ev ∧ IW W rv ev (l.getD i I0)
/-- the slice v holds the invoices l -/
def IR (W : World) (v : Value) (l : List I) : Prop :=
  (l = [] ∧ ∃ a c, v = .slice a 0 c) ∨ ∃ b o cap, v = .slice (some ⟨b, o, none⟩) l.length cap ∧ IC W b o l
/-- the value v is the bill x -/
def BV (W : World) (v : Value) (x : B) : Prop := ∃ tv ev iv, v = .agg #[tv, ev, iv, .int .i64 x.paid] ∧ ER W tv x.tar ∧ ER W ev x.evs ∧ IR W iv x.invs

theorem I6.kept {W W' : World} {b o : Nat} {x : I} {rv ev : Value} (h : I6 W b o x rv ev) (hl : b < W.heap.size) (hb : Below W.heap.size W W') : I6 W' b o x rv ev :=
  ⟨(hb.cell (p := ⟨b, o, none⟩) hl).trans h.1, (hb.cell (p := ⟨b, o + 1, none⟩) hl).trans h.2.1, (hb.cell (p := ⟨b, o + 2, none⟩) hl).trans h.2.2.1, (hb.cell (p := ⟨b, o + 3, none⟩) hl).trans h.2.2.2.1, (hb.cell (p := ⟨b, o + 4, none⟩) hl).trans h.2.2.2.2.1, (hb.cell (p := ⟨b, o + 5, none⟩) hl).trans h.2.2.2.2.2⟩
theorem IW.kept {W W' : World} {rv ev : Value} {x : I} (h : IW W rv ev x) (hb : Below W.heap.size W W') : IW W' rv ev x := ⟨h.1.kept hb, h.2.kept hb⟩
theorem IC.kept {W W' : World} {b o : Nat} {l : List I} (h : IC W b o l) (hb : Below W.heap.size W W') : IC W' b o l :=
  ⟨Nat.lt_of_lt_of_le h.1 hb.size, fun i hi => by
    obtain ⟨rv, ev, h6, hw⟩ := h.2 i hi
    exact ⟨rv, ev, h6.kept h.1 hb, hw.kept hb⟩⟩
theorem IR.kept {W W' : World} {v : Value} {l : List I} (h : IR W v l) (hb : Below W.heap.size W W') : IR W' v l := by
  rcases h with h | ⟨b, o, cap, rfl, hc⟩
  · exact .inl h
  · exact .inr ⟨b, o, cap, rfl, hc.kept hb⟩
theorem IR.slice {W : World} {v : Value} {l : List I} (h : IR W v l) : ∃ a c, v = .slice a l.length c := by
  rcases h with ⟨rfl, a, c, rfl⟩ | ⟨b, o, cap, rfl, _⟩
  · exact ⟨_, _, rfl⟩
  · exact ⟨_, _, rfl⟩
theorem BV.kept {W W' : World} {v : Value} {x : B} (h : BV W v x) (hb : Below W.heap.size W W') : BV W' v x := by
  obtain ⟨tv, ev, iv, rfl, h1, h2, h3⟩ := h
  exact ⟨tv, ev, iv, rfl, h1.kept hb, h2.kept hb, h3.kept hb⟩

/-! ### size -/
def FineE (l : List E) : Prop := l.length ≤ maxLen ∧ ∀ u ∈ l, u.1.size ≤ maxLen ∧ u.2.1.size ≤ maxLen
def FineR (l : List R) : Prop := l.length ≤ maxLen ∧ ∀ u ∈ l, u.1.size ≤ maxLen
def FineI (x : I) : Prop := FineR x.rows ∧ FineE x.evs
def FineIs (l : List I) : Prop := l.length ≤ maxLen ∧ ∀ x ∈ l, FineI x
def FineB (x : B) : Prop := FineE x.tar ∧ FineE x.evs ∧ FineIs x.invs
/-- not too many of anything -/
def FewI (x : I) : Prop := x.rows.length ≤ 1048576 ∧ x.evs.length ≤ 1048576
def FewIs (l : List I) : Prop := l.length ≤ 1048576 ∧ ∀ x ∈ l, FewI x
def FewB (x : B) : Prop := x.tar.length ≤ 1048576 ∧ x.evs.length ≤ 1048576 ∧ FewIs x.invs

theorem box6 (w w1 : World) (a b c d e f : Value) (t : TypeId) (hb : Below (w.alloc (.cells #[a, b, c, d, e, f] t)).heap.size (w.alloc (.cells #[a, b, c, d, e, f] t)) w1) :
    w1.cell? ⟨w.heap.size, 0, none⟩ = some a ∧ w1.cell? ⟨w.heap.size, 1, none⟩ = some b ∧ w1.cell? ⟨w.heap.size, 2, none⟩ = some c ∧ w1.cell? ⟨w.heap.size, 3, none⟩ = some d ∧ w1.cell? ⟨w.heap.size, 4, none⟩ = some e ∧ w1.cell? ⟨w.heap.size, 5, none⟩ = some f ∧ Below w.heap.size w w1 := by
  have e1 := (MapKept.heap_alloc w (.cells #[a, b, c, d, e, f] t)).1
  have n : ∀ k v, #[a, b, c, d, e, f][k]? = some v → (w.alloc (.cells #[a, b, c, d, e, f] t)).cell? ⟨w.heap.size, k, none⟩ = some v := by
    intro k v hv
    simp only [World.cell?]
    rw [e1]; simpa using hv
  exact ⟨(hb.cell (p := ⟨w.heap.size, 0, none⟩) (by simp)).trans (n 0 _ rfl), (hb.cell (p := ⟨w.heap.size, 1, none⟩) (by simp)).trans (n 1 _ rfl), (hb.cell (p := ⟨w.heap.size, 2, none⟩) (by simp)).trans (n 2 _ rfl), (hb.cell (p := ⟨w.heap.size, 3, none⟩) (by simp)).trans (n 3 _ rfl), (hb.cell (p := ⟨w.heap.size, 4, none⟩) (by simp)).trans (n 4 _ rfl), (hb.cell (p := ⟨w.heap.size, 5, none⟩) (by simp)).trans (n 5 _ rfl), (below_alloc _ _).trans (hb.mono (by simp))⟩
theorem box4 (w w1 : World) (a b c d : Value) (t : TypeId) (hb : Below (w.alloc (.cells #[a, b, c, d] t)).heap.size (w.alloc (.cells #[a, b, c, d] t)) w1) :
    w1.cell? ⟨w.heap.size, 0, none⟩ = some a ∧ w1.cell? ⟨w.heap.size, 1, none⟩ = some b ∧ w1.cell? ⟨w.heap.size, 2, none⟩ = some c ∧ w1.cell? ⟨w.heap.size, 3, none⟩ = some d ∧ Below w.heap.size w w1 := by
  have e1 := (MapKept.heap_alloc w (.cells #[a, b, c, d] t)).1
  have n : ∀ k v, #[a, b, c, d][k]? = some v → (w.alloc (.cells #[a, b, c, d] t)).cell? ⟨w.heap.size, k, none⟩ = some v := by
    intro k v hv
    simp only [World.cell?]
    rw [e1]; simpa using hv
  exact ⟨(hb.cell (p := ⟨w.heap.size, 0, none⟩) (by simp)).trans (n 0 _ rfl), (hb.cell (p := ⟨w.heap.size, 1, none⟩) (by simp)).trans (n 1 _ rfl), (hb.cell (p := ⟨w.heap.size, 2, none⟩) (by simp)).trans (n 2 _ rfl), (hb.cell (p := ⟨w.heap.size, 3, none⟩) (by simp)).trans (n 3 _ rfl), (below_alloc _ _).trans (hb.mono (by simp))⟩

set_option maxHeartbeats 800000 in
theorem szInv (x : I) (rv ev : Value) (n : Int) (w : World) (h : IW w rv ev x) (hf : FineI x) (h0 : 0 ≤ n) (h1 : n ≤ 1048576) :
    Calls Try.prog 107 #[iV x rv ev, .int .i64 n] w fun e w' => ∃ r : Int, e = .returned (.int .i64 r) ∧ -1 ≤ r ∧ r ≤ n ∧ (0 ≤ r → FewI x) ∧ Below w.heap.size w w' := by
  have HW := hide h
  have HF := hide hf
  clear h hf
  obtain ⟨no, rows, evs, net, tax, credit⟩ := x
  go_enter Try.func107, Try.ntmps107
  go_wp2_with (fail)
  refine (BRow.szRows rv rows n _ ((unhide HW).1.kept (below_alloc _ _)) (unhide HF).1.1 (unhide HF).1.2 h0 h1).mono ?_
  rintro x w1 ⟨r, rfl, r1, r2, r3, hb1⟩
  obtain ⟨c0, c1, c2, c3, c4, c5, hB⟩ := box6 _ _ _ _ _ _ _ _ _ hb1
  have HB := hide hB
  have HE := hide ((unhide HW).2.kept hB)
  have R3 := hide r3
  clear hb1 hB r3
  by_cases hr : r < 0
  · go_wp2_with (fail)
    go_ret
    exact ⟨_, rfl, by omega, by omega, fun h => by omega, unhide HB⟩
  · go_wp2_with (fail)
    refine (Evs.szEvs ev evs r _ (unhide HE) (unhide HF).2.1 (unhide HF).2.2 (by omega) (by omega)).mono ?_
    rintro x w2 ⟨r', rfl, r1', r2', r3', hb2⟩
    have HB2 := hide (below_trans (unhide HB) hb2)
    have R3' := hide r3'
    clear hb2 r3' HB
    by_cases hr' : r' < 0
    · go_wp2_with (fail)
      go_ret
      exact ⟨_, rfl, by omega, by omega, fun h => by omega, unhide HB2⟩
    · go_wp2_with (fail)
      go_ret
      exact ⟨_, rfl, by omega, by omega, fun h => ⟨by have := unhide R3 (by omega); simp only; omega, by have := unhide R3' (by omega); simp only; omega⟩, unhide HB2⟩

set_option maxHeartbeats 800000 in
theorem szInvs (v : Value) (l : List I) (n : Int) (w : World) (h : IR w v l) (hf : FineIs l) (h0 : 0 ≤ n) (h1 : n ≤ 1048576) :
    Calls Try.prog 74 #[v, .int .i64 n] w fun e w' => ∃ r : Int, e = .returned (.int .i64 r) ∧ -1 ≤ r ∧ r ≤ n ∧ (0 ≤ r → FewIs l) ∧ Below w.heap.size w w' := by
  obtain ⟨hl, hf⟩ := hf
  have HF := hide hf
  clear hf
  unfold maxLen at hl
  by_cases hneg : n - l.length < 0
  · obtain ⟨a, c, rfl⟩ := h.slice
    clear h
    go_enter Try.func74, Try.ntmps74
    go_wp2
    go_ret
    exact ⟨_, rfl, by omega, by omega, fun h => by omega, Below.refl _ _⟩
  rcases h with ⟨rfl, a, c, rfl⟩ | ⟨b, o, cap, rfl, hc⟩
  · go_enter Try.func74, Try.ntmps74
    go_wp2
    refine wp_loop_rounds 1 ?_
    rw [rounds_succ]
    go_wp2
    go_ret
    exact ⟨_, rfl, by omega, by omega, fun h => ⟨by simp, by simp⟩, Below.refl _ _⟩
  · have HC := hide hc; clear hc
    go_enter Try.func74, Try.ntmps74
    go_wp2
    go_loopw [1, 5] (fun t i wr => ∃ (k : Nat) (q : Int), k ≤ l.length ∧ i = .int .i64 k ∧ t = .int .i64 q ∧ 0 ≤ q ∧ q ≤ n ∧ Hid (∀ j, j < k → FewI (l.getD j I0)) ∧ Hid (Below w.heap.size w wr)) (fun _ i _ => l.length - (intOf i).toNat)
    case atStart => exact ⟨0, _, by omega, rfl, rfl, by omega, by omega, hide (fun j hj => by omega), hide (Below.refl _ _)⟩
    case round =>
      obtain ⟨k, q, hk, rfl, rfl, hq0, hq1, hfew, hb⟩ := hrel
      by_cases hlt : k < l.length
      · obtain ⟨rv, ev, h6, hw⟩ := ((unhide HC).kept (unhide hb)).2 k hlt
        obtain ⟨c1, c2, c3, c4, c5, c6⟩ := h6
        have HW := hide hw
        have HFk : Hid (FineI (l.getD k I0)) := hide (unhide HF _ (by simp [List.getD, hlt]))
        have HX : Hid (∀ y, l.getD k I0 = y → FewI y → ∀ j, j < k + 1 → FewI (l.getD j I0)) := hide (fun y hy h j hj => by
          by_cases e : j = k
          · subst e; rw [hy]; exact h
          · exact unhide hfew j (by omega))
        clear hw hfew
        generalize hx : l.getD k I0 = x at *
        have HX := hide (unhide HX x rfl)
        have hno : ∃ no, x.no = no := ⟨_, rfl⟩
        clear hx
        go_wp2_with (fail)
        refine (szInv x rv ev q wr (unhide HW) (unhide HFk) hq0 (by omega)).mono ?_
        rintro e w1 ⟨r, rfl, r1, r2, r3, hb1⟩
        have HB : Hid (Below w.heap.size w w1) := hide (below_trans (unhide hb) hb1)
        have R3 := hide r3
        clear hb hb1 r3
        by_cases hr : r < 0
        · go_wp2
          go_ret
          exact ⟨_, rfl, by omega, by omega, fun h => by omega, unhide HB⟩
        · go_wp2
          exact ⟨⟨k + 1, r, by omega, by go_num, rfl, by omega, by omega, hide (unhide HX (unhide R3 (by omega))), HB⟩, by simp [intOf]; omega⟩
      · have HX : Hid (0 ≤ n → FewIs l) := hide (fun _ => ⟨by omega, fun y hy => by
          obtain ⟨j, hj, rfl⟩ := List.getElem_of_mem hy
          have := unhide hfew j (by omega)
          simpa [List.getD, hj] using this⟩)
        clear hfew
        go_wp2
        go_ret
        exact ⟨_, rfl, by omega, by omega, fun h => unhide HX (by omega), unhide hb⟩

set_option maxHeartbeats 800000 in
theorem szBill (v : Value) (x : B) (n : Int) (w : World) (h : BV w v x) (hf : FineB x) (h0 : 0 ≤ n) (h1 : n ≤ 1048576) :
    Calls Try.prog 39 #[v, .int .i64 n] w fun e w' => ∃ r : Int, e = .returned (.int .i64 r) ∧ -1 ≤ r ∧ r ≤ n ∧ (0 ≤ r → FewB x) ∧ Below w.heap.size w w' := by
  obtain ⟨tv, ev, iv, rfl, ht, he, hi⟩ := h
  have HT := hide ht
  have HE := hide he
  have HI := hide hi
  have HF := hide hf
  clear ht he hi hf
  obtain ⟨tar, evs, invs, paid⟩ := x
  go_enter Try.func39, Try.ntmps39
  go_wp2_with (fail)
  refine (Evs.szLins tv tar n _ ((unhide HT).kept (below_alloc _ _)) (unhide HF).1.1 (unhide HF).1.2 h0 h1).mono ?_
  rintro x w1 ⟨r, rfl, r1, r2, r3, hb1⟩
  obtain ⟨c0, c1, c2, c3, hB⟩ := box4 _ _ _ _ _ _ _ hb1
  have HB := hide hB
  have HE1 := hide ((unhide HE).kept hB)
  have HI1 := hide ((unhide HI).kept hB)
  have R3 := hide r3
  have hlt : w.heap.size < w1.heap.size := Nat.lt_of_lt_of_le (by simp) hb1.size
  clear hb1 hB r3 HE HI HT
  by_cases hr : r < 0
  · go_wp2_with (fail)
    go_ret
    exact ⟨_, rfl, by omega, by omega, fun h => by omega, unhide HB⟩
  · go_wp2_with (fail)
    refine (Evs.szEvs ev evs r _ (unhide HE1) (unhide HF).2.1.1 (unhide HF).2.1.2 (by omega) (by omega)).mono ?_
    rintro x w2 ⟨r', rfl, r1', r2', r3', hb2⟩
    have HB2 := hide (below_trans (unhide HB) hb2)
    have HI2 := hide ((unhide HI1).kept hb2)
    have d2 := (hb2.cell (p := ⟨w.heap.size, 2, none⟩) hlt).trans c2
    have R3' := hide r3'
    clear hb2 r3' HB HI1 HE1 c0 c1 c2 c3
    by_cases hr' : r' < 0
    · go_wp2_with (fail)
      go_ret
      exact ⟨_, rfl, by omega, by omega, fun h => by omega, unhide HB2⟩
    · go_wp2_with (fail)
      refine (szInvs iv invs r' _ (unhide HI2) (unhide HF).2.2 (by omega) (by omega)).mono ?_
      rintro x w3 ⟨r'', rfl, r1'', r2'', r3'', hb3⟩
      have HB3 := hide (below_trans (unhide HB2) hb3)
      have R3'' := hide r3''
      clear hb3 r3'' HB2 HI2
      by_cases hr'' : r'' < 0
      · go_wp2_with (fail)
        go_ret
        exact ⟨_, rfl, by omega, by omega, fun h => by omega, unhide HB3⟩
      · go_wp2_with (fail)
        go_ret
        exact ⟨_, rfl, by omega, by omega, fun h => ⟨by have := unhide R3 (by omega); simp only; omega, by have := unhide R3' (by omega); simp only; omega, unhide R3'' (by omega)⟩, unhide HB3⟩
end Go.Proofs.Ytdjjgoeinkbmjaa.Bills
