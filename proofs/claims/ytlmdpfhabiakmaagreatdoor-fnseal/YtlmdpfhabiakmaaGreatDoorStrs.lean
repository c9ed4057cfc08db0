/-
  Rows of texts of the call's own: made at once and stored into, or appended to.
-/
import Derived.Test.YtlmdpfhabiakmaaGreatDoorNumG
import Derived.WalkKit
import Derived.WalkLawsBesides
import Derived.Below
import Derived.WalkMore
import Derived.Outline
import Derived.Deep.QuietTactic
import Derived.BigQuiet
import Derived.Deep.RegionHeld3
import Derived.Deep.AppendLies
import Derived.Deep.OwnRows
import Derived.Laws.AppendOwnNone
namespace Go.Proofs.YtlmdpfhabiakmaaGreatDoor.Strs
set_option linter.unusedVariables false
open Go.RowKit
open Num (bytesOf)

theorem hide {p : Prop} (h : p) : Hid p := h
theorem unhide {p : Prop} (h : Hid p) : p := h
theorem below_trans {w w1 w2 : World} (h : Below w.heap.size w w1) (k : Below w1.heap.size w1 w2) : Below w.heap.size w w2 := h.trans (k.mono h.size)
theorem below_alloc (w : World) (o : Obj) : Below w.heap.size w (w.alloc o) := (Below.refl _ _).alloc (Nat.le_refl _) _
theorem below_drew (w : World) (n : Nat) : Below w.heap.size w (w.drewN n) := ⟨rfl, rfl, rfl, Nat.le_refl _, fun _ _ => rfl⟩
theorem new2 (w : World) (a b : Value) (t : TypeId) : (w.alloc (.cells #[a, b] t)).cell? ⟨w.heap.size, 0, none⟩ = some a ∧ (w.alloc (.cells #[a, b] t)).cell? ⟨w.heap.size, 1, none⟩ = some b := by
  have e1 := (MapKept.heap_alloc w (.cells #[a, b] t)).1
  simp only [World.cell?]
  rw [e1]; simp
theorem infoS : (Tryz.prog.info? 9).map (fun i => (i.zero, i.size, i.bytes)) = some (some (.string ByteArray.empty), 1, 16) := by kernel_rfl
/-- a row of n words under way: those that are laid -/
structure WRow (W : World) (b n : Nat) (ws : List (List UInt8)) : Prop where
  lt : b < W.heap.size
  at_ : ∀ j x, ws[j]? = some x → W.cell? ⟨b, j, none⟩ = some (.string (bytesOf x))
  any : ∀ j, j < n → ∃ v, W.cell? ⟨b, j, none⟩ = some v
  free : ∀ j, W.frozen? ⟨b, j, none⟩ = false
theorem WRow.kept {W W' : World} {b n : Nat} {ws : List (List UInt8)} (h : WRow W b n ws) (hb : Below W.heap.size W W') : WRow W' b n ws :=
  ⟨Nat.lt_of_lt_of_le h.lt hb.size, fun j x hx => (hb.cell (p := ⟨b, j, none⟩) h.lt).trans (h.at_ j x hx), fun j hj => by obtain ⟨v, hv⟩ := h.any j hj; exact ⟨v, (hb.cell (p := ⟨b, j, none⟩) h.lt).trans hv⟩, fun j => (hb.frozen (p := ⟨b, j, none⟩) h.lt).trans (h.free j)⟩
theorem WRow.set {W : World} {b n : Nat} {ws : List (List UInt8)} (h : WRow W b n ws) (hn : ws.length < n) (x : List UInt8) : WRow (W.setCell ⟨b, ws.length, none⟩ (.string (bytesOf x))) b n (ws ++ [x]) := by
  have hsame : ∀ u, (W.setCell ⟨b, ws.length, none⟩ u).cell? ⟨b, ws.length, none⟩ = some u := fun u => by
    obtain ⟨v, hv⟩ := h.any ws.length hn
    exact World.cell?_setCell_same _ _ _ hv
  have hoth : ∀ j u, j ≠ ws.length → (W.setCell ⟨b, ws.length, none⟩ u).cell? ⟨b, j, none⟩ = W.cell? ⟨b, j, none⟩ := fun j u hj => World.cell?_setCell_other _ _ _ _ (fun he => by simp only [Addr.mk.injEq, and_true, true_and] at he; omega)
  refine ⟨by simpa using h.lt, fun j y hy => ?_, fun j hj => ?_, fun j => by simpa [World.frozen?_setCell] using h.free j⟩
  · rcases Nat.lt_or_ge j ws.length with h1 | h1
    · rw [List.getElem?_append_left h1] at hy
      rw [hoth j _ (by omega)]; exact h.at_ j y hy
    · rw [List.getElem?_append_right h1] at hy
      have : j = ws.length := by
        have := (List.getElem?_eq_some_iff.1 hy).1
        simp at this; omega
      subst this
      obtain rfl : x = y := by simpa using hy
      exact hsame _
  · by_cases e : j = ws.length
    · subst e; exact ⟨_, hsame _⟩
    · rw [hoth j _ e]; exact h.any j hj
theorem WRow.made (w : World) (n : Nat) (t : TypeId) : WRow (w.alloc (.cells (madeCells #[.string ByteArray.empty] n) t)) w.heap.size n [] := by
  have e1 := (MapKept.heap_alloc w (.cells (madeCells #[.string ByteArray.empty] n) t)).1
  refine ⟨by simp, fun j x hx => by simp at hx, fun j hj => ?_, fun j => ?_⟩
  · simp only [World.cell?]
    rw [e1]
    refine ⟨(madeCells #[.string ByteArray.empty] n)[j]'(by rw [size_madeCells]; exact hj), ?_⟩
    simp [size_madeCells, hj]
  · simp only [World.frozen?]
    rw [e1]; simp

abbrev sV (x : List UInt8) : Value := .string (bytesOf x)
/-- a row of words of the call's own -/
def SO (W : World) (B : Nat) (v : Value) (ws : List (List UInt8)) : Prop := W.ownsRow B 9 1 v ws.length (ws.map sV)

theorem infoS' : ∃ i, Tryz.prog.info? 9 = some i ∧ i.zero = some (.string ByteArray.empty) ∧ i.size = 1 ∧ i.bytes = 16 := by
  obtain ⟨i, hi, h2⟩ := Option.map_eq_some_iff.1 infoS
  simp only [Prod.mk.injEq] at h2
  exact ⟨i, hi, h2.1, h2.2.1, h2.2.2⟩
theorem SO.nil (W : World) (B : Nat) : SO W B (.slice none 0 0) [] := ⟨by simp, .inl ⟨rfl, rfl⟩⟩
theorem SO.blk {W : World} {B : Nat} {v : Value} {ws : List (List UInt8)} (h : SO W B v ws) : ∀ q, v.ownBlock = some q → B ≤ q ∧ q < W.heap.size := World.ownsRow.lt h
theorem SO.kept {W W' : World} {B : Nat} {v : Value} {ws : List (List UInt8)} (h : SO W B v ws) (hb : Below W.heap.size W W') : SO W' B v ws :=
  World.ownsRow.kept (row := none) h ⟨hb.os, hb.tape, hb.output, hb.size, fun j hj _ => hb.block j hj⟩ (by
    cases h1 : v.ownBlock with
    | none => exact .inl rfl
    | some q => exact .inr (by simp))
theorem SO.form {W : World} {B : Nat} {v : Value} {ws : List (List UInt8)} (h : SO W B v ws) : ∃ a c, v = .slice a ws.length c := by
  obtain ⟨h1, h2⟩ := h
  rcases h2 with ⟨rfl, h0⟩ | ⟨g, cap, cur, rfl, _⟩
  · exact ⟨none, 0, by rw [h0]⟩
  · exact ⟨_, _, rfl⟩
theorem below_grown {B : Nat} {a b c : World} {r : Option Nat} (h : Below B a b) (hg : b.grownBy c r) (hB : B ≤ a.heap.size) (hr : ∀ q, r = some q → B ≤ q) : Below B a c :=
  h.grown hg (Nat.le_trans hB h.size) hr

theorem newOne (w : World) (X : List UInt8) (t : TypeId) : ∀ j y, [X][j]? = some y → (w.alloc (.cells #[.string (bytesOf X)] t)).cell? ⟨w.heap.size, j, none⟩ = some (sV y)
  | 0, y, hy => by
    obtain rfl : X = y := by simpa using hy
    have e1 := (MapKept.heap_alloc w (.cells #[.string (bytesOf X)] t)).1
    simp only [World.cell?]
    rw [e1]; rfl
section
variable {ops : Array Oper} {o : Oper} {a : Act} {Q : Exit → Act → World → Prop}
theorem listAppS (w : World) {rest : List Oper} (hgd : o.guard = none) (s x : Operand) (ho : o.op = .call { callee := .builtin .append, args := #[s, x], argTypes := #[46, 46] })
    (B N c n k : Nat) (v : Value) (ws new : List (List UInt8)) (hn : new.length = n) (hk : ws.length = k) (hs : a.eval s = v) (hv : SO w B v ws) (hx : a.eval x = .slice (some ⟨N, 0, none⟩) n c) (hN : ∀ j y, new[j]? = some y → w.cell? ⟨N, j, none⟩ = some (sV y)) (hne : new ≠ []) (hl : ws.length + new.length ≤ 4000000) (hB : B ≤ w.heap.size)
    (h : ∀ g cap w', SO w' B (.slice (some ⟨g, 0, none⟩) (k + n) cap) (ws ++ new) → w.grownBy w' v.ownBlock → g < w'.heap.size → wpList Tryz.prog ops Q rest (a.put o.dst (.slice (some ⟨g, 0, none⟩) (k + n) cap)) w') :
    wpList Tryz.prog ops Q (o :: rest) a w := by
  subst hn hk
  obtain ⟨i, hi, hz, hsz, hby⟩ := infoS'
  refine wpList_append_lies (P := Tryz.prog) w hgd s x 46 ho B 9 i _ 1 16 Tryz.underlying46 hi hz hsz hby rfl (by omega) v ws.length (ws.map sV) hs hv ⟨N, 0, none⟩ new.length c (new.map sV) hx (by simp) ?_ ?_ (List.length_pos_iff.2 hne) (by unfold maxLen; omega) (by omega) hB _ rfl ?_
  · intro j u hu
    rw [List.getElem?_map] at hu
    obtain ⟨y, hy, rfl⟩ := Option.map_eq_some_iff.1 hu
    rw [Addr.add_lit, Nat.zero_add]
    exact hN j y hy
  · intro u hu
    obtain ⟨y, _, rfl⟩ := List.mem_map.1 hu
    rfl
  · intro g cap w' h1 h2 h3 h4
    refine h g cap w' ?_ h2 h4
    unfold SO
    rw [List.map_append, List.length_append]
    exact h1
theorem listAppNo (w : World) {rest : List Oper} (hgd : o.guard = none) (s x : Operand) (ho : o.op = .call { callee := .builtin .append, args := #[s, x], argTypes := #[46, 46] })
    (B : Nat) (v : Value) (ws : List (List UInt8)) (hs : a.eval s = v) (hv : SO w B v ws) (hx : a.eval x = .slice none 0 0)
    (h : wpList Tryz.prog ops Q rest (a.put o.dst v) w) :
    wpList Tryz.prog ops Q (o :: rest) a w := by
  obtain ⟨i, hi, hz, hsz, hby⟩ := infoS'
  exact wpList_append_own_none (P := Tryz.prog) hgd s x 46 ho B 9 i 1 Tryz.underlying46 hi v ws.length (ws.map sV) hs hv hx h
end
theorem SO.cells {W : World} {B g n cap : Nat} {ws : List (List UInt8)} (h : SO W B (.slice (some ⟨g, 0, none⟩) n cap) ws) : ∀ j x, ws[j]? = some x → W.cell? ⟨g, j, none⟩ = some (sV x) := fun j x hx => by
  have := World.ownsRow.cells h rfl j (sV x) (by rw [List.getElem?_map, hx]; rfl)
  rw [Addr.add_lit, Nat.zero_add] at this
  exact this
theorem SO.cap {W : World} {B g n cap : Nat} {ws : List (List UInt8)} (h : SO W B (.slice (some ⟨g, 0, none⟩) n cap) ws) : ws.length ≤ cap := by
  obtain ⟨h1, h2⟩ := h
  rcases h2 with ⟨h3, _⟩ | ⟨g', cap', cur, h3, hB, hb, h4⟩
  · cases h3
  · simp only [Value.slice.injEq] at h3
    obtain ⟨_, _, rfl⟩ := h3
    exact h4.1

theorem bytes_map (l : List (List UInt8)) : (l.map bytesOf).map (·.data.toList) = l := by
  rw [List.map_map]
  have : ((fun x : ByteArray => x.data.toList) ∘ bytesOf) = id := by funext x; simp [bytesOf]
  rw [this, List.map_id]
end Go.Proofs.YtlmdpfhabiakmaaGreatDoor.Strs
