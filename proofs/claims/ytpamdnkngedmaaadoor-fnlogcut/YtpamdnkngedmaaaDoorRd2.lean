/-
  The reader of drawn codes: its opening, numbers of a list, words.
-/
import Derived.Test.YtpamdnkngedmaaaDoorRd
namespace Go.Proofs.YtpamdnkngedmaaaDoor.Draw
set_option linter.unusedVariables false
open Go.RowKit

theorem hide {p : Prop} (h : p) : Hid p := h
theorem unhide {p : Prop} (h : Hid p) : p := h
theorem below_drewN' {B : Nat} {a w : World} (h : Below B a w) (k : Nat) : Below B a (w.drewN k) := ⟨h.os, h.tape, h.output, h.size, h.block⟩
theorem grown_trans {a b c : World} {r : Option Nat} (h : a.grownBy b r) (k : b.grownBy c r) : a.grownBy c r :=
  ⟨k.os.trans h.os, k.tape.trans h.tape, k.output.trans h.output, Nat.le_trans h.size k.size, fun j hj hne => (k.block j (Nat.lt_of_lt_of_le hj h.size) hne).trans (h.block j hj hne)⟩
theorem grown_none {a b : World} {r : Option Nat} (h : a.grownBy b none) : a.grownBy b r := ⟨h.os, h.tape, h.output, h.size, fun j hj _ => h.block j hj (by simp)⟩
theorem grown_of_below {a b : World} (h : Below a.heap.size a b) (r : Option Nat) : a.grownBy b r := ⟨h.os, h.tape, h.output, h.size, fun j hj _ => h.block j hj⟩

/-- the reader is still what it was where only other blocks, all younger than it, have turned -/
theorem Rd.kept {w w' : World} {b p : Nat} {r : Option Nat} (h : Rd w b p) (hg : w.grownBy w' r) (hr : ∀ k, r = some k → b < k) : Rd w' b p := by
  have hb := h.lt
  have hne : ∀ j, j ≤ b → some j ≠ r := fun j hj e => by have := hr j e.symm; omega
  obtain ⟨a, len, cap, hl, h0, h1, hf, hr⟩ := h
  refine ⟨a, len, cap, hl, hg.cell h0 (hne _ (Nat.le_refl _)), hg.cell h1 (hne _ (Nat.le_refl _)), ?_, ?_⟩
  · rw [World.frozen?_of_block (hg.block b hb (hne _ (Nat.le_refl _)))]; exact hf
  · rcases hr with h | ⟨blk, off, e, hb, hc⟩
    · exact .inl h
    · refine .inr ⟨blk, off, e, hb, fun i hi => ?_⟩
      obtain ⟨c, c0, c1, hc⟩ := hc i hi
      exact ⟨c, c0, c1, hg.cell hc (hne blk (by omega))⟩

/-- bytes that came in: at most len are read -/
def Bytes (W : World) (a : Option Addr) (len cap : Nat) : Prop := len ≤ cap ∧ cap ≤ 9223372036854775807 ∧ (len = 0 ∨ ∃ blk off, a = some ⟨blk, off, none⟩ ∧ blk < W.heap.size ∧ ∀ i, i < len → ∃ c : Int, 0 ≤ c ∧ c ≤ 255 ∧ W.cell? ⟨blk, off + i, none⟩ = some (.int .u8 c))

theorem bytes_of {w : World} {a : Option Addr} {len cap : Nat} {zs : List Int} (h : (a = none ∧ len = 0 ∧ cap = 0 ∧ zs = []) ∨ ∃ x, a = some x ∧ len ≤ cap ∧ cap ≤ maxLen ∧ zs.length = cap ∧ (∀ i, i < zs.length → w.cell? (x.add i) = some (.int .u8 (zs.getD i 0))) ∧ ∀ n ∈ zs, (Lit.int .u8 n).wf = true) : Bytes w a len cap := by
  rcases h with ⟨rfl, rfl, rfl, rfl⟩ | ⟨x, rfl, hl, hm, hz, hc, hw⟩
  · exact ⟨Nat.le_refl _, by omega, .inl rfl⟩
  · refine ⟨hl, by unfold maxLen at hm; omega, ?_⟩
    by_cases h0 : len = 0
    · exact .inl h0
    · obtain ⟨b, off, spot⟩ := x
      have hspot : spot = none := by simpa [Addr.add] using World.cell?_spot (hc 0 (by omega))
      subst hspot
      refine .inr ⟨b, off, rfl, ?_, fun i hi => ?_⟩
      · have h1 := hc 0 (by omega)
        refine Nat.lt_of_not_le fun hn => ?_
        have h2 : w.heap[b]? = none := by simp; omega
        simp [World.cell?, Addr.add, h2] at h1
      · have h1 := hc i (by omega)
        have h2 : zs.getD i 0 ∈ zs := by
          rw [List.getD_eq_getElem?_getD, List.getElem?_eq_getElem (by omega)]; simp
        have h3 : 0 ≤ zs.getD i 0 ∧ zs.getD i 0 ≤ 255 := by simpa [Lit.wf, IntKind.min, IntKind.max, IntKind.signed, IntKind.bits] using hw _ h2
        rw [Addr.add_lit] at h1
        exact ⟨_, h3.1, h3.2, h1⟩

theorem Bytes.kept {w w' : World} {a : Option Addr} {len cap : Nat} (h : Bytes w a len cap) (hb : Below w.heap.size w w') : Bytes w' a len cap := by
  obtain ⟨h1, h2, hr⟩ := h
  refine ⟨h1, h2, ?_⟩
  rcases hr with h | ⟨blk, off, e, hlt, hc⟩
  · exact .inl h
  · refine .inr ⟨blk, off, e, Nat.lt_of_lt_of_le hlt hb.size, fun i hi => ?_⟩
    obtain ⟨c, c0, c1, hc⟩ := hc i hi
    exact ⟨c, c0, c1, by rw [hb.cell (p := ⟨blk, off + i, none⟩) hlt]; exact hc⟩
theorem below_trans {w w1 w2 : World} (h : Below w.heap.size w w1) (k : Below w1.heap.size w1 w2) : Below w.heap.size w w2 := h.trans (k.mono h.size)

theorem cell_alloc {w : World} {q : Addr} {v : Value} (o : Obj) (h : w.cell? q = some v) (hq : q.block < w.heap.size) : (w.alloc o).cell? q = some v := by
  rw [World.cell?_of_block (w := w) (Below.heap_alloc w o q.block hq)]; exact h

theorem rd_new (w : World) (a : Option Addr) (len cap : Nat) (t : TypeId) (hl : len ≤ 2000) (h : Bytes w a len cap) : Rd (w.alloc (.cells #[.slice a len cap, .int .i64 0] t)) w.heap.size 0 := by
  obtain ⟨h1, h2, hr⟩ := h
  refine ⟨a, len, cap, hl, ?_, ?_, ?_, ?_⟩
  · go_simp
  · go_simp
  · go_simp
  · rcases hr with h | ⟨blk, off, e, hb, hc⟩
    · exact .inl h
    · refine .inr ⟨blk, off, e, hb, fun i hi => ?_⟩
      obtain ⟨c, c0, c1, hc⟩ := hc i hi
      exact ⟨c, c0, c1, cell_alloc _ hc hb⟩

/-- l18Open: a new reader -/
theorem openR (a : Option Addr) (len cap : Nat) (w : World) (h : Bytes w a len cap) :
    Calls Tryd.prog 19 #[.slice a len cap] w fun e w' => e = .returned (.pointer (some ⟨w.heap.size, 0, none⟩)) ∧ Rd w' w.heap.size 0 ∧ Below w.heap.size w w' := by
  have hb := h
  obtain ⟨h1, h2, hr⟩ := h
  by_cases hl : 2000 < len
  · rcases hr with h | ⟨blk, off, rfl, hblk, hc⟩
    · omega
    · have hc := hide hc
      go_enter Tryd.func19, Tryd.ntmps19
      go_wp2
      go_ret
      exact ⟨rfl, rd_new w _ 2000 cap _ (Nat.le_refl _) ⟨by omega, h2, .inr ⟨blk, off, rfl, hblk, fun i hi => unhide hc i (by omega)⟩⟩, (Below.refl _ _).alloc (Nat.le_refl _) _⟩
  · clear hr
    go_enter Tryd.func19, Tryd.ntmps19
    go_wp2
    go_ret
    exact ⟨rfl, rd_new w a len cap _ (by omega) hb, (Below.refl _ _).alloc (Nat.le_refl _) _⟩

theorem wrapU (n : Int) : 0 ≤ IntKind.u64.wrap n ∧ IntKind.u64.wrap n < 18446744073709551616 := by
  have h : IntKind.u64.wrap n = n % 18446744073709551616 := by simp [IntKind.wrap, IntKind.bits, IntKind.signed]
  rw [h]; omega

/-- the numbers of a list that is written out -/
theorem new_nums (Q : Int → Prop) (w : World) (xs : List Int) (t : TypeId) (h : ∀ z ∈ xs, Q z) : ∀ i, i < xs.length → ∃ z : Int, Q z ∧ (w.alloc (.cells (xs.map (Value.int .i64)).toArray t)).cell? ⟨w.heap.size, 0 + i, none⟩ = some (.int .i64 z) := by
  intro i hi
  refine ⟨xs[i], h _ (List.getElem_mem hi), ?_⟩
  have e1 := (MapKept.heap_alloc w (.cells (xs.map (Value.int .i64)).toArray t)).1
  simp only [World.cell?]
  rw [e1]
  simp [hi]

/-- what a draw of the reader leaves: at most q bytes more are taken, and nothing that lay there has turned but the reader -/
def Drawn (w w' : World) (b p q : Nat) : Prop := (∃ p', p' ≤ p + q ∧ Rd w' b p') ∧ w.grownBy w' (some b)

/-- l1Coin: a number of at most 2000000000000000 -/
def isCoin (z : Int) : Prop := -2000000000000000 ≤ z ∧ z ≤ 2000000000000000

theorem Drawn.trans {w1 w2 w3 : World} {b p q : Nat} (h : w1.grownBy w2 (some b)) (k : Drawn w2 w3 b p q) : w1.grownBy w3 (some b) := grown_trans h k.2

/-- a reader that was opened in this call, and all that it did since, has turned nothing that was there before -/
theorem below_of {w w1 w2 : World} {b : Nat} (h : Below w.heap.size w w1) (hb : w.heap.size ≤ b) (hg : w1.grownBy w2 (some b)) : Below w.heap.size w w2 := h.grown hg h.size (fun k e => by injection e with e; omega)

/-- small numbers -/
def isSmall (z : Int) : Prop := -2000000 ≤ z ∧ z ≤ 2000000

end Go.Proofs.YtpamdnkngedmaaaDoor.Draw
