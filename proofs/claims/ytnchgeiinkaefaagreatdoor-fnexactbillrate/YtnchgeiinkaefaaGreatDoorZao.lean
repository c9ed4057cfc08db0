/-
  Texts of this proof laid together, in build order; each says of itself what it holds.
-/
import Derived.Test.YtnchgeiinkaefaaGreatDoorZaa
import Derived.Test.YtnchgeiinkaefaaGreatDoorProg
import Derived.WalkKit
import Derived.WalkLawsBesides
import Derived.Below
import Derived.Deep.QuietTactic
import Derived.BigQuiet
import Derived.Deep.OwnRows
import Derived.WalkMore
import Derived.Test.YtnchgeiinkaefaaGreatDoorZah
section
/-
  How the tax of a rate is shared among its rows: plain mathematics.
-/
namespace Go.Proofs.YtnchgeiinkaefaaGreatDoor.Tax
set_option linter.unusedVariables false

/-- i comes ahead of j: it has the greater rest, or as much and stands first -/
def ahd (r : Nat → Int) (i j : Nat) : Bool := decide (r j < r i) || (decide (r i = r j) && decide (i < j))
/-- how many of the group come ahead of j -/
def cntG (g : Nat → Bool) (r : Nat → Int) (n j : Nat) : Nat := (List.range n).countP fun i => g i && ahd r i j

theorem ahd_iff {r : Nat → Int} {i j : Nat} : ahd r i j = true ↔ r j < r i ∨ (r i = r j ∧ i < j) := by
  unfold ahd; simp
theorem ahd_irr (r : Nat → Int) (i : Nat) : ahd r i i = false := by
  cases h : ahd r i i
  · rfl
  · have := ahd_iff.1 h; omega
theorem ahd_asym {r : Nat → Int} {i j : Nat} (h : ahd r i j = true) : ahd r j i = false := by
  cases h2 : ahd r j i
  · rfl
  · have := ahd_iff.1 h; have := ahd_iff.1 h2; omega
theorem ahd_tri {r : Nat → Int} {i j : Nat} (h : i ≠ j) (h2 : ahd r i j = false) : ahd r j i = true := by
  have h3 : ¬ (r j < r i ∨ (r i = r j ∧ i < j)) := fun h => by rw [ahd_iff.2 h] at h2; cases h2
  exact ahd_iff.2 (by omega)

theorem count_lt {p q : Nat → Bool} : ∀ (n : Nat), (∀ i, i < n → q i = true → p i = true) → ∀ j, p j = true → q j = false → (List.range n).countP q + (if j < n then 1 else 0) ≤ (List.range n).countP p
  | 0, _, j, _, _ => by simp
  | n + 1, h, j, hp, hq => by
    have ih := count_lt n (fun i hi => h i (by omega)) j hp hq
    rw [List.range_succ, List.countP_append, List.countP_append, List.countP_singleton, List.countP_singleton]
    have hn := h n (by omega)
    by_cases e : j = n
    · subst e
      rw [hp, hq]
      simp at ih ⊢
      omega
    · have e1 : (if j < n + 1 then 1 else 0) = (if j < n then 1 else 0) := by
        by_cases h2 : j < n
        · rw [if_pos h2, if_pos (by omega)]
        · rw [if_neg h2, if_neg (by omega)]
      rw [e1]
      cases hqn : q n
      · simp; omega
      · rw [hn hqn]; simp; omega
theorem count_le {p q : Nat → Bool} (n : Nat) (h : ∀ i, i < n → q i = true → p i = true) : (List.range n).countP q ≤ (List.range n).countP p := by
  apply List.countP_mono_left
  intro i hi
  exact h i (List.mem_range.1 hi)
theorem count_add {p : Nat → Bool} {b : Nat} : ∀ (n : Nat), p b = false → (List.range n).countP (fun i => p i || decide (i = b)) = (List.range n).countP p + (if b < n then 1 else 0)
  | 0, _ => by simp
  | n + 1, h => by
    have ih := count_add n h
    rw [List.range_succ, List.countP_append, List.countP_append, List.countP_singleton, List.countP_singleton, ih]
    by_cases e : b = n
    · subst e
      rw [h]; simp
    · have e2 : decide (n = b) = false := decide_eq_false (by omega)
      have e1 : (if b < n + 1 then 1 else 0) = (if b < n then 1 else 0) := by
        by_cases h2 : b < n
        · rw [if_pos h2, if_pos (by omega)]
        · rw [if_neg h2, if_neg (by omega)]
      rw [e1, e2, Bool.or_false]
      omega

/-- p holds of those that got one more already: nobody outside is ahead of one of them -/
def Pk (g : Nat → Bool) (r : Nat → Int) (n : Nat) (p : Nat → Bool) : Prop := (∀ i, i < n → p i = true → g i = true) ∧ ∀ i j, i < n → j < n → g i = true → p j = true → ahd r i j = true → p i = true

theorem Pk.none (g : Nat → Bool) (r : Nat → Int) (n : Nat) : Pk g r n fun _ => false := ⟨fun i _ h => absurd h Bool.false_ne_true, fun i j _ _ _ h _ => absurd h Bool.false_ne_true⟩

theorem Pk.iff {g : Nat → Bool} {r : Nat → Int} {n : Nat} {p : Nat → Bool} (h : Pk g r n p) {j : Nat} (hj : j < n) (hg : g j = true) : p j = decide (cntG g r n j < (List.range n).countP p) := by
  cases hp : p j
  · refine (decide_eq_false ?_).symm
    have := count_le (p := fun i => g i && ahd r i j) (q := p) n (fun i hi h2 => by
      rw [h.1 i hi h2, Bool.true_and]
      by_cases e : i = j
      · subst e; rw [hp] at h2; cases h2
      cases h3 : ahd r i j
      · have h4 := ahd_tri e h3
        rw [h.2 j i hj hi hg h2 h4] at hp; cases hp
      · rfl)
    unfold cntG; omega
  · refine (decide_eq_true ?_).symm
    have := count_lt (p := p) (q := fun i => g i && ahd r i j) n (fun i hi h2 => by
      simp only [Bool.and_eq_true] at h2
      exact h.2 i j hi hj h2.1 hp h2.2) j hp (by simp only [ahd_irr, Bool.and_false])
    rw [if_pos hj] at this
    unfold cntG; omega

/-- b is the best of the first k that got nothing yet -/
def Best (g : Nat → Bool) (r : Nat → Int) (p : Nat → Bool) (k b : Nat) : Prop := b < k ∧ g b = true ∧ p b = false ∧ ∀ i, i < k → g i = true → p i = false → i ≠ b → ahd r b i = true
/-- all of the first k got theirs -/
def All (g p : Nat → Bool) (k : Nat) : Prop := ∀ i, i < k → g i = true → p i = true

theorem Pk.next {g : Nat → Bool} {r : Nat → Int} {n b : Nat} {p : Nat → Bool} (h : Pk g r n p) (hb : Best g r p n b) : Pk g r n (fun i => p i || decide (i = b)) := by
  obtain ⟨h1, h2, h3, h4⟩ := hb
  refine ⟨fun i hi hp => ?_, fun i j hi hj hg hp ha => ?_⟩
  · simp only [Bool.or_eq_true, decide_eq_true_eq] at hp
    rcases hp with hp | rfl
    · exact h.1 i hi hp
    · exact h2
  · simp only [Bool.or_eq_true, decide_eq_true_eq] at hp ⊢
    rcases hp with hp | rfl
    · exact .inl (h.2 i j hi hj hg hp ha)
    · by_cases e : i = j
      · exact .inr e
      · cases hpi : p i
        · have := h4 i hi hg hpi e
          rw [ahd_asym this] at ha; cases ha
        · exact .inl rfl
theorem Best.more {g : Nat → Bool} {r : Nat → Int} {p : Nat → Bool} {k b : Nat} (h : Best g r p k b) (hk : (g k && !p k) = true → r k ≤ r b) : Best g r p (k + 1) b :=
  ⟨by have := h.1; omega, h.2.1, h.2.2.1, fun i hi hg hp hne => by
    by_cases e : i = k
    · subst e
      have := hk (by rw [hg, hp]; rfl)
      have h1 := h.1
      exact ahd_iff.2 (by omega)
    · exact h.2.2.2 i (by omega) hg hp hne⟩
theorem Best.turn {g : Nat → Bool} {r : Nat → Int} {p : Nat → Bool} {k b : Nat} (h : Best g r p k b) (hk : (g k && !p k) = true) (hr : r b < r k) : Best g r p (k + 1) k := by
  simp only [Bool.and_eq_true, Bool.not_eq_true'] at hk
  refine ⟨by omega, hk.1, hk.2, fun i hi hg hp hne => ?_⟩
  by_cases e : i = b
  · subst e; exact ahd_iff.2 (.inl hr)
  · have := ahd_iff.1 (h.2.2.2 i (by omega) hg hp e)
    exact ahd_iff.2 (by omega)
theorem Best.first {g : Nat → Bool} {r : Nat → Int} {p : Nat → Bool} {k : Nat} (h : All g p k) (hk : (g k && !p k) = true) : Best g r p (k + 1) k := by
  simp only [Bool.and_eq_true, Bool.not_eq_true'] at hk
  refine ⟨by omega, hk.1, hk.2, fun i hi hg hp hne => ?_⟩
  rw [h i (by omega) hg] at hp; cases hp
theorem All.more {g p : Nat → Bool} {k : Nat} (h : All g p k) (hk : (g k && !p k) = false) : All g p (k + 1) := fun i hi hg => by
  by_cases e : i = k
  · subst e
    rw [hg] at hk
    simpa using hk
  · exact h i (by omega) hg

/-- what is summed up over the first k of the group -/
def sumG (g : Nat → Bool) (f : Nat → Int) : Nat → Int
  | 0 => 0
  | k + 1 => sumG g f k + if g k then f k else 0
theorem sumG_bd {g : Nat → Bool} {f : Nat → Int} {m : Int} (hm : 0 ≤ m) : ∀ k, (∀ i, i < k → 0 ≤ f i ∧ f i ≤ m) → 0 ≤ sumG g f k ∧ sumG g f k ≤ k * m
  | 0, _ => ⟨Int.le_refl _, by simp [sumG]⟩
  | k + 1, h => by
    have ih := sumG_bd (g := g) hm k (fun i hi => h i (by omega))
    have hk := h k (by omega)
    have e : ((k + 1 : Nat) : Int) * m = k * m + m := by rw [Int.natCast_add, Int.add_mul]; simp
    rw [e]
    unfold sumG
    split <;> omega

/-- each one's part of the tax, rounded down, and what is left -/
def partJ (net : Nat → Int) (q : Int) (j : Nat) : Int := net j / 10000 * q + net j % 10000 * q / 10000
def restJ (net : Nat → Int) (q : Int) (j : Nat) : Int := net j % 10000 * q % 10000
theorem partJ_bd {net : Nat → Int} {q : Int} {j : Nat} (h0 : 0 ≤ net j) (h1 : net j ≤ 1000000000000000) (q0 : 0 ≤ q) (q1 : q ≤ 5000) :
    (0 ≤ net j / 10000 ∧ net j / 10000 ≤ 100000000000) ∧ (0 ≤ net j % 10000 ∧ net j % 10000 < 10000) ∧ (0 ≤ net j / 10000 * q ∧ net j / 10000 * q ≤ 500000000000000) ∧ (0 ≤ net j % 10000 * q ∧ net j % 10000 * q ≤ 50000000) ∧ (0 ≤ net j % 10000 * q / 10000 ∧ net j % 10000 * q / 10000 ≤ 5000) ∧ (0 ≤ partJ net q j ∧ partJ net q j ≤ 500000000005000) ∧ 0 ≤ restJ net q j ∧ restJ net q j < 10000 := by
  have a1 : 0 ≤ net j / 10000 := Int.ediv_nonneg h0 (by omega)
  have a2 : net j / 10000 ≤ 100000000000 := by omega
  have a3 : 0 ≤ net j % 10000 := Int.emod_nonneg _ (by omega)
  have a4 : net j % 10000 < 10000 := Int.emod_lt_of_pos _ (by omega)
  have b1 : 0 ≤ net j / 10000 * q := Int.mul_nonneg a1 q0
  have b2 : net j / 10000 * q ≤ 100000000000 * 5000 := Int.mul_le_mul a2 q1 q0 (by omega)
  have b3 : 0 ≤ net j % 10000 * q := Int.mul_nonneg a3 q0
  have b4 : net j % 10000 * q ≤ 10000 * 5000 := Int.mul_le_mul (by omega) q1 q0 (by omega)
  have c1 : 0 ≤ net j % 10000 * q / 10000 := Int.ediv_nonneg b3 (by omega)
  have c2 : net j % 10000 * q / 10000 ≤ 5000 := by omega
  have d1 : 0 ≤ net j % 10000 * q % 10000 := Int.emod_nonneg _ (by omega)
  have d2 : net j % 10000 * q % 10000 < 10000 := Int.emod_lt_of_pos _ (by omega)
  unfold partJ restJ
  refine ⟨⟨a1, a2⟩, ⟨a3, a4⟩, ⟨b1, by omega⟩, ⟨b3, by omega⟩, ⟨c1, c2⟩, ⟨by omega, by omega⟩, d1, d2⟩

/-- the group of a rate, if there is anything to be shared -/
def grp (rate : Nat → Int) (q S : Int) (j : Nat) : Bool := decide (rate j = q) && decide (0 < S)
/-- what each row owes behind the tax of a rate has been shared -/
def spreadF (net rate old : Nat → Int) (n : Nat) (q S tax : Int) (j : Nat) : Int :=
  if grp rate q S j then partJ net q j + (if (cntG (grp rate q S) (restJ net q) n j : Int) < tax - sumG (grp rate q S) (partJ net q) n then 1 else 0) else old j
end Go.Proofs.YtnchgeiinkaefaaGreatDoor.Tax
end

section
/-
  Slices of ints in memory, and the laws' own helpers on them (copy, compare, mark, look).
-/
namespace Go.Proofs.YtnchgeiinkaefaaGreatDoor.Ints
set_option linter.unusedVariables false
open Go.RowKit

theorem hide {p : Prop} (h : p) : Hid p := h
theorem unhide {p : Prop} (h : Hid p) : p := h

/-- from o on block b holds the numbers l; none of these cells is frozen -/
def Cells (W : World) (b o : Nat) (l : List Int) : Prop := b < W.heap.size ∧ ∀ i, i < l.length → W.cell? ⟨b, o + i, none⟩ = some (.int .i64 (l.getD i 0)) ∧ W.frozen? ⟨b, o + i, none⟩ = false

theorem Cells.kept {W W' : World} {b o : Nat} {l : List Int} {r : Option Nat} (h : Cells W b o l) (hg : W.grownBy W' r) (hb : some b ≠ r) : Cells W' b o l :=
  ⟨Nat.lt_of_lt_of_le h.1 hg.size, fun i hi => ⟨hg.cell (h.2 i hi).1 hb, by rw [World.frozen?_of_block (hg.block b h.1 hb)]; exact (h.2 i hi).2⟩⟩

theorem Cells.set {W : World} {b o : Nat} {l : List Int} (h : Cells W b o l) {k : Nat} (hk : k < l.length) (x : Int) : Cells (W.setCell ⟨b, o + k, none⟩ (.int .i64 x)) b o (l.set k x) := by
  refine ⟨by simpa using h.1, fun i hi => ?_⟩
  have hi' : i < l.length := by simpa using hi
  obtain ⟨h1, h2⟩ := h.2 i hi'
  obtain ⟨h3, h4⟩ := h.2 k hk
  refine ⟨?_, by rw [World.frozen?_setCell]; exact h2⟩
  by_cases e : i = k
  · subst e
    rw [List.getD_eq_getElem?_getD, List.getElem?_set_self hi']
    exact World.cell?_setCell_same _ _ _ h3
  · rw [World.cell?_setCell_other _ _ _ _ (by simp), h1, List.getD_eq_getElem?_getD, List.getD_eq_getElem?_getD, List.getElem?_set_ne (by omega)]

theorem Cells.made (w : World) (n : Nat) (t : TypeId) : Cells (w.alloc (.cells (madeCells #[.int .i64 0] n) t)) w.heap.size 0 (List.replicate n 0) := by
  refine ⟨by simp, fun i hi => ?_⟩
  have hi' : i < n := by simpa using hi
  have e1 := (MapKept.heap_alloc w (.cells (madeCells #[.int .i64 0] n) t)).1
  constructor
  · simp only [World.cell?]
    rw [e1]
    have em : i % 1 = 0 := Nat.mod_one i
    simp [madeCells, hi', em]
  · simp only [World.frozen?]
    rw [e1]; simp

/-- the slice v holds the numbers l -/
def IR (W : World) (v : Value) (l : List Int) : Prop :=
  (v = .slice none 0 0 ∧ l = []) ∨ ∃ b o cap, v = .slice (some ⟨b, o, none⟩) l.length cap ∧ l.length ≤ 1048576 ∧ Cells W b o l

/-- blocks that a slice does not lie in may turn -/
theorem IR.kept {W W' : World} {v : Value} {l : List Int} {r : Option Nat} (h : IR W v l) (hg : W.grownBy W' r) (hne : v.ownBlock = none ∨ v.ownBlock ≠ r) : IR W' v l := by
  rcases h with h | ⟨b, o, cap, rfl, h1, h2⟩
  · exact .inl h
  · have hb : some b ≠ r := by simpa [Value.ownBlock] using hne
    exact .inr ⟨b, o, cap, rfl, h1, h2.kept hg hb⟩
theorem IR.len {W : World} {v : Value} {l : List Int} (h : IR W v l) : l.length ≤ 1048576 := by
  rcases h with ⟨_, rfl⟩ | ⟨b, o, cap, rfl, h1, _⟩
  · simp
  · exact h1
theorem below_grown {a b : World} (h : Below a.heap.size a b) (r : Option Nat) : a.grownBy b r := ⟨h.os, h.tape, h.output, h.size, fun j hj _ => h.block j hj⟩
theorem grown_trans {a b c : World} {r : Option Nat} (h : a.grownBy b r) (k : b.grownBy c r) : a.grownBy c r :=
  ⟨k.os.trans h.os, k.tape.trans h.tape, k.output.trans h.output, Nat.le_trans h.size k.size, fun j hj hne => (k.block j (Nat.lt_of_lt_of_le hj h.size) hne).trans (h.block j hj hne)⟩
/-- a store into the row -/
theorem set_grown (w : World) (b o : Nat) (u : Value) : w.grownBy (w.setCell ⟨b, o, none⟩ u) (some b) := by
  refine ⟨rfl, rfl, rfl, ?_, ?_⟩
  · simp
  · intro j hj hne
    exact Below.heap_setCell w ⟨b, o, none⟩ u j (fun e => hne (by rw [e]))

theorem info : (Tryz.prog.info? 3).map (fun i => (i.zero, i.size, i.bytes)) = some (some (.int .i64 0), 1, 8) := by kernel_rfl

theorem copy_step (l : List Int) (k : Nat) (h : k < l.length) : (l.take k ++ List.replicate (l.length - k) 0).set k (l.getD k 0) = l.take (k + 1) ++ List.replicate (l.length - (k + 1)) 0 := by
  have e : l.length - k = (l.length - (k + 1)) + 1 := by omega
  rw [e, List.replicate_succ, List.set_append_right _ _ (by simp; omega)]
  have e2 : k - (l.take k).length = 0 := by simp; omega
  rw [e2, List.set_cons_zero]
  have e3 : l.take (k + 1) = l.take k ++ [l.getD k 0] := by rw [List.take_add_one, List.getElem?_eq_getElem h]; simp [List.getD, h]
  rw [e3, List.append_assoc]; rfl

theorem getD_eq {l m : List Int} (hl : l.length = m.length) (h : ∀ i, i < l.length → l.getD i 0 = m.getD i 0) : l = m := by
  apply List.ext_getElem hl
  intro i h1 h2
  have := h i h1
  simpa [List.getD, h1, h2] using this

/-- marks: k, k + 1, .. -/
def marks (k : Int) (n : Nat) : List Int := (List.range n).map fun (i : Nat) => k + (i : Int)
end Go.Proofs.YtnchgeiinkaefaaGreatDoor.Ints
end

section
/-
  Rows of a call's own whose tax is turned; rows and rests as functions of their place.
-/
namespace Go.Proofs.YtnchgeiinkaefaaGreatDoor.Tax
set_option linter.unusedVariables false
open Go.RowKit
open Evs (E E0 ER EC)
open BRow (R R0 RC ROwn)
open Ints (Cells)

theorem rown_blk {W W' : World} {b : Nat} {l : List R} (h : ROwn W b l) (hb : W'.heap[b]? = W.heap[b]?) (hs : b < W'.heap.size) : ROwn W' b l :=
  ⟨⟨hs, fun i hi => ⟨(World.cell?_of_block (w := W) hb).trans (h.1.2 i hi).1, (World.cell?_of_block (w := W) hb).trans (h.1.2 i hi).2.1, (World.cell?_of_block (w := W) hb).trans (h.1.2 i hi).2.2⟩⟩, fun j => (World.frozen?_of_block (w := W) hb).trans (h.2 j)⟩
theorem rown_off {W : World} {b g o : Nat} {l : List R} (h : ROwn W b l) (u : Value) (hg : g ≠ b) : ROwn (W.setCell ⟨g, o, none⟩ u) b l :=
  rown_blk h (Below.heap_setCell W ⟨g, o, none⟩ u b (by simp; omega)) (by simpa using h.1.1)
theorem cells_blk {W W' : World} {b : Nat} {l : List Int} (h : Cells W b 0 l) (hb : W'.heap[b]? = W.heap[b]?) (hs : b < W'.heap.size) : Cells W' b 0 l :=
  ⟨hs, fun i hi => ⟨(World.cell?_of_block (w := W) hb).trans (h.2 i hi).1, (World.frozen?_of_block (w := W) hb).trans (h.2 i hi).2⟩⟩
theorem cells_off {W : World} {b g o : Nat} {l : List Int} (h : Cells W b 0 l) (u : Value) (hg : g ≠ b) : Cells (W.setCell ⟨g, o, none⟩ u) b 0 l :=
  cells_blk h (Below.heap_setCell W ⟨g, o, none⟩ u b (by simp; omega)) (by simpa using h.1)
theorem cells_below {W W' : World} {b : Nat} {l : List Int} (h : Cells W b 0 l) (hb : Below W.heap.size W W') : Cells W' b 0 l :=
  cells_blk h (hb.block b h.1) (Nat.lt_of_lt_of_le h.1 hb.size)

/-- the tax of row k -/
theorem rown_tax {W : World} {b : Nat} {l : List R} (h : ROwn W b l) {k : Nat} (hk : k < l.length) (x : Int) :
    ROwn (W.setCell ⟨b, k * 3 + 2, none⟩ (.int .i64 x)) b (l.set k ((l.getD k R0).1, (l.getD k R0).2.1, x)) := by
  refine ⟨⟨by simpa using h.1.1, fun i hi => ?_⟩, fun j => by simpa [World.frozen?_setCell] using h.2 j⟩
  have hi' : i < l.length := by simpa using hi
  obtain ⟨c0, c1, c2⟩ := h.1.2 i hi'
  rw [Nat.zero_add] at c0 c1 c2
  rw [Nat.zero_add]
  by_cases e : i = k
  · subst e
    rw [List.getD_eq_getElem?_getD, List.getElem?_set_self hi']
    refine ⟨?_, ?_, ?_⟩
    · rw [World.cell?_setCell_other _ _ _ _ (by simp)]; exact c0
    · rw [World.cell?_setCell_other _ _ _ _ (by simp)]; exact c1
    · exact World.cell?_setCell_same _ _ _ c2
  · have e2 : (l.set k ((l.getD k R0).1, (l.getD k R0).2.1, x)).getD i R0 = l.getD i R0 := by
      rw [List.getD_eq_getElem?_getD, List.getElem?_set_ne (by omega), ← List.getD_eq_getElem?_getD]
    rw [e2]
    refine ⟨?_, ?_, ?_⟩
    · rw [World.cell?_setCell_other _ _ _ _ (by intro he; simp only [Addr.mk.injEq, and_true, true_and] at he; omega)]; exact c0
    · rw [World.cell?_setCell_other _ _ _ _ (by intro he; simp only [Addr.mk.injEq, and_true, true_and] at he; omega)]; exact c1
    · rw [World.cell?_setCell_other _ _ _ _ (by intro he; simp only [Addr.mk.injEq, and_true, true_and] at he; omega)]; exact c2

/-- what each row comes to, and owes -/
abbrev netF (l : List R) (j : Nat) : Int := (l.getD j R0).2.1
abbrev oldF (l : List R) (j : Nat) : Int := (l.getD j R0).2.2
/-- the rate of each line -/
abbrev rateF (t : List E) (j : Nat) : Int := (t.getD j E0).2.2
/-- the rows with these taxes -/
def rowsF (l : List R) (f : Nat → Int) : List R := (List.range l.length).map fun j => ((l.getD j R0).1, netF l j, f j)
theorem rowsF_len (l : List R) (f : Nat → Int) : (rowsF l f).length = l.length := by simp [rowsF]
theorem rowsF_get (l : List R) (f : Nat → Int) {j : Nat} (h : j < l.length) : (rowsF l f).getD j R0 = ((l.getD j R0).1, netF l j, f j) := by
  simp [rowsF, List.getD, h]
theorem rowsF_old (l : List R) : rowsF l (oldF l) = l := by
  apply List.ext_getElem (by simp [rowsF])
  intro i h1 h2
  simp [rowsF, netF, oldF, List.getD, h2]
theorem rowsF_congr (l : List R) {f g : Nat → Int} (h : ∀ j, j < l.length → f j = g j) : rowsF l f = rowsF l g := by
  unfold rowsF
  apply List.map_congr_left
  intro j hj
  rw [h j (List.mem_range.1 hj)]
theorem rowsF_set (l : List R) (f : Nat → Int) {k : Nat} (hk : k < l.length) (x : Int) : (rowsF l f).set k (((rowsF l f).getD k R0).1, ((rowsF l f).getD k R0).2.1, x) = rowsF l fun j => if j = k then x else f j := by
  rw [rowsF_get l f hk]
  apply List.ext_getElem (by simp [rowsF])
  intro i h1 h2
  by_cases e : i = k
  · subst e; simp [rowsF]
  · rw [List.getElem_set_ne (by omega)]; simp [rowsF, e]
theorem rowsF_rows (l : List R) (f g : Nat → Int) : rowsF (rowsF l f) g = rowsF l g := by
  apply List.ext_getElem (by simp [rowsF])
  intro i h1 h2
  have hi : i < l.length := by simpa [rowsF] using h2
  simp [rowsF, netF, List.getD, hi]

/-- the rests -/
def restL (n : Nat) (h : Nat → Int) : List Int := (List.range n).map h
theorem restL_len (n : Nat) (h : Nat → Int) : (restL n h).length = n := by simp [restL]
theorem restL_get {n : Nat} (h : Nat → Int) {j : Nat} (hj : j < n) : (restL n h).getD j 0 = h j := by simp [restL, List.getD, hj]
theorem restL_congr {n : Nat} {h g : Nat → Int} (e : ∀ j, j < n → h j = g j) : restL n h = restL n g := by
  unfold restL
  apply List.map_congr_left
  intro j hj
  rw [e j (List.mem_range.1 hj)]
theorem restL_set {n : Nat} (h : Nat → Int) {k : Nat} (hk : k < n) (x : Int) : (restL n h).set k x = restL n fun j => if j = k then x else h j := by
  apply List.ext_getElem (by simp [restL])
  intro i h1 h2
  by_cases e : i = k
  · subst e; simp [restL]
  · rw [List.getElem_set_ne (by omega)]; simp [restL, e]
theorem restL_zero (n : Nat) : List.replicate n (0 : Int) = restL n fun _ => 0 := by
  apply List.ext_getElem (by simp [restL])
  intro i h1 h2
  simp [restL]
end Go.Proofs.YtnchgeiinkaefaaGreatDoor.Tax
end

section
/-
  spec.l4First.
-/
namespace Go.Proofs.YtnchgeiinkaefaaGreatDoor.Tax
set_option linter.unusedVariables false
open Go.RowKit
open Evs (E E0 ER EC hide unhide below_trans below_drewN')

/-- f is the first line with the rate of line i -/
def IsFirst (rate : Nat → Int) (i f : Nat) : Prop := f ≤ i ∧ rate f = rate i ∧ ∀ j, j < f → rate j ≠ rate i

set_option maxHeartbeats 800000 in
theorem firstS (v : Value) (t : List E) (i : Nat) (w : World) (h : ER w v t) (hi : i < t.length) (hl : t.length ≤ 6) :
    Calls Tryz.prog 37 #[v, .int .i64 i] w fun e w' => ∃ f : Nat, e = .returned (.int .i64 f) ∧ IsFirst (rateF t) i f ∧ Below w.heap.size w w' := by
  rcases h with ⟨rfl, _⟩ | ⟨b, o, cap, rfl, hc⟩
  · simp at hi
  have HC := hide hc
  clear hc
  have j1 : (0 : Int) ≤ (i : Int) := by omega
  have j2 : (i : Int) < (t.length : Int) := by omega
  go_enter Tryz.func37, Tryz.ntmps37
  go_wp2
  go_loopw [5] (fun s wr => ∃ k : Nat, k ≤ i ∧ s = .int .i64 k ∧ Hid (∀ j, j < k → rateF t j ≠ rateF t i) ∧ Hid (Below w.heap.size w wr)) (fun s _ => i - (intOf s).toNat)
  case atStart => exact ⟨0, Nat.zero_le _, rfl, hide (fun j hj => by omega), hide (Below.refl _ _)⟩
  case round =>
    obtain ⟨k, hk, rfl, hd, hb⟩ := hrel
    by_cases hlt : k < i
    · have hc := (unhide HC).kept (unhide hb)
      have c1 := (hc.2 k (by omega)).2.2
      have c2 := (hc.2 i hi).2.2
      have k1 : (0 : Int) ≤ (k : Int) := by omega
      have k2 : (k : Int) < (t.length : Int) := by omega
      have HF : Hid (rateF t k = rateF t i → IsFirst (rateF t) i k) := hide (fun he => ⟨hk, he, unhide hd⟩)
      have HN : Hid (rateF t k ≠ rateF t i → ∀ j, j < k + 1 → rateF t j ≠ rateF t i) := hide (fun he j hj => by
        by_cases e : j = k
        · subst e; exact he
        · exact unhide hd j (by omega))
      clear hc hd
      by_cases he : rateF t k = rateF t i
      · have HF2 := hide (unhide HF he)
        have he2 : (t.getD k E0).2.2 = (t.getD i E0).2.2 := he
        rw [he2] at c1
        clear HF HN he he2
        generalize (t.getD i E0).2.2 = q at *
        go_wp2
        go_quiet (fail)
        go_wp2
        go_ret
        exact ⟨k, rfl, unhide HF2, below_drewN' (unhide hb) _⟩
      · have HN2 := hide (unhide HN he)
        have he2 : (((t.getD k E0).2.2 : Int) == (t.getD i E0).2.2) = false := beq_eq_false_iff_ne.2 he
        clear HF HN he
        generalize (t.getD i E0).2.2 = q at *
        generalize (t.getD k E0).2.2 = x at *
        go_wp2
        go_quiet (fail)
        go_wp2
        exact ⟨⟨k + 1, by omega, by go_num, HN2, hide (below_drewN' (unhide hb) _)⟩, by simp [intOf]; omega⟩
    · obtain rfl : k = i := by omega
      go_wp2
      go_ret
      exact ⟨k, rfl, ⟨Nat.le_refl _, rfl, unhide hd⟩, unhide hb⟩
end Go.Proofs.YtnchgeiinkaefaaGreatDoor.Tax
end

section
/-
  spec.l4Spread: the tax of one rate shared among its rows.
-/
namespace Go.Proofs.YtnchgeiinkaefaaGreatDoor.Tax
set_option linter.unusedVariables false
open Go.RowKit
open Evs (E E0 ER EC hide unhide below_trans below_drewN')
open BRow (R R0 RC ROwn)
open Ints (Cells)

/-- the taxes behind the first k rows -/
def tax1 (net old : Nat → Int) (g : Nat → Bool) (q : Int) (k j : Nat) : Int := if decide (j < k) && g j then partJ net q j else old j
def rest1 (net : Nat → Int) (g : Nat → Bool) (q : Int) (k j : Nat) : Int := if decide (j < k) && g j then restJ net q j + 1 else 0
/-- the taxes where p has got one more -/
def tax2 (net old : Nat → Int) (g p : Nat → Bool) (q : Int) (j : Nat) : Int := if g j then partJ net q j + (if p j then 1 else 0) else old j
def rest2 (net : Nat → Int) (g p : Nat → Bool) (q : Int) (j : Nat) : Int := if g j && !p j then restJ net q j + 1 else 0

theorem tax1_no {net old : Nat → Int} {g : Nat → Bool} {q : Int} {k : Nat} (h : g k = false) (j : Nat) : tax1 net old g q (k + 1) j = tax1 net old g q k j := by
  unfold tax1
  by_cases e : j = k
  · subst e; simp [h]
  · have : decide (j < k + 1) = decide (j < k) := by rw [Bool.eq_iff_iff]; simp; omega
    rw [this]
theorem rest1_no {net : Nat → Int} {g : Nat → Bool} {q : Int} {k : Nat} (h : g k = false) (j : Nat) : rest1 net g q (k + 1) j = rest1 net g q k j := by
  unfold rest1
  by_cases e : j = k
  · subst e; simp [h]
  · have : decide (j < k + 1) = decide (j < k) := by rw [Bool.eq_iff_iff]; simp; omega
    rw [this]
theorem tax1_yes {net old : Nat → Int} {g : Nat → Bool} {q : Int} {k : Nat} (h : g k = true) (j : Nat) : tax1 net old g q (k + 1) j = if j = k then partJ net q k else tax1 net old g q k j := by
  unfold tax1
  by_cases e : j = k
  · subst e; simp [h]
  · rw [if_neg e]
    have : decide (j < k + 1) = decide (j < k) := by rw [Bool.eq_iff_iff]; simp; omega
    rw [this]
theorem rest1_yes {net : Nat → Int} {g : Nat → Bool} {q : Int} {k : Nat} (h : g k = true) (j : Nat) : rest1 net g q (k + 1) j = if j = k then restJ net q k + 1 else rest1 net g q k j := by
  unfold rest1
  by_cases e : j = k
  · subst e; simp [h]
  · rw [if_neg e]
    have : decide (j < k + 1) = decide (j < k) := by rw [Bool.eq_iff_iff]; simp; omega
    rw [this]
theorem tax1_end (net old : Nat → Int) (g : Nat → Bool) (q : Int) {n j : Nat} (h : j < n) : tax1 net old g q n j = tax2 net old g (fun _ => false) q j := by
  unfold tax1 tax2; rw [decide_eq_true h]; simp
theorem rest1_end (net : Nat → Int) (g : Nat → Bool) (q : Int) {n j : Nat} (h : j < n) : rest1 net g q n j = rest2 net g (fun _ => false) q j := by
  unfold rest1 rest2; rw [decide_eq_true h]; simp
theorem tax2_next {net old : Nat → Int} {g p : Nat → Bool} {q : Int} {b : Nat} (hg : g b = true) (hp : p b = false) (j : Nat) : tax2 net old g (fun i => p i || decide (i = b)) q j = if j = b then tax2 net old g p q b + 1 else tax2 net old g p q j := by
  unfold tax2
  by_cases e : j = b
  · subst e; simp [hg, hp]
  · simp [e]
theorem rest2_next {net : Nat → Int} {g p : Nat → Bool} {q : Int} {b : Nat} (j : Nat) : rest2 net g (fun i => p i || decide (i = b)) q j = if j = b then 0 else rest2 net g p q j := by
  unfold rest2
  by_cases e : j = b
  · subst e; simp
  · simp [e]
/-- what is there when the loop ends -/
theorem spread_end {net rate old : Nat → Int} {n : Nat} {q S tax : Int} {p : Nat → Bool} (hP : Pk (grp rate q S) (restJ net q) n p)
    (h : (tax - sumG (grp rate q S) (partJ net q) n - ((List.range n).countP p : Int) ≤ 0 ∧ ((List.range n).countP p = 0 ∨ ((List.range n).countP p : Int) ≤ tax - sumG (grp rate q S) (partJ net q) n)) ∨ (All (grp rate q S) p n ∧ ((List.range n).countP p : Int) ≤ tax - sumG (grp rate q S) (partJ net q) n)) {j : Nat} (hj : j < n) :
    tax2 net old (grp rate q S) p q j = spreadF net rate old n q S tax j := by
  unfold tax2 spreadF
  cases hg : grp rate q S j
  · rfl
  have hi := hP.iff hj hg
  rw [if_pos rfl, if_pos rfl]
  congr 1
  rcases h with ⟨h1, h2⟩ | ⟨h1, h2⟩
  · rw [hi]
    by_cases e : cntG (grp rate q S) (restJ net q) n j < (List.range n).countP p
    · rw [decide_eq_true e, if_pos rfl, if_pos (by omega)]
    · rw [decide_eq_false e, if_neg (by simp), if_neg (by omega)]
  · have hp := h1 j hj hg
    rw [hp] at hi
    have := of_decide_eq_true hi.symm
    rw [hp, if_pos rfl, if_pos (by omega)]
end Go.Proofs.YtnchgeiinkaefaaGreatDoor.Tax
end

section
/-
  spec.l4Spread, walked.
-/
namespace Go.Proofs.YtnchgeiinkaefaaGreatDoor.Tax
set_option linter.unusedVariables false
open Go.RowKit
open Evs (E E0 ER EC hide unhide below_trans below_drewN')
open BRow (R R0 RC ROwn)
open Ints (Cells)

set_option maxRecDepth 20000 in
set_option maxHeartbeats 4000000 in
theorem spreadS (w0 : World) (tv : Value) (t : List E) (b c n : Nat) (l : List R) (q S tax : Int) (w : World) (hT : ER w0 tv t) (hB : Below w0.heap.size w0 w) (hR : ROwn w b l) (hb : w0.heap.size ≤ b)
    (hn : l.length = n) (ht : t.length = n) (h6 : n ≤ 6) (hN : ∀ j, j < n → 0 ≤ netF l j ∧ netF l j ≤ 1000000000000000) (q0 : 0 ≤ q) (q1 : q ≤ 5000) (hx : 0 ≤ tax ∧ tax ≤ 1000000000000000) :
    Calls Tryz.prog 39 #[tv, .slice (some ⟨b, 0, none⟩) n c, .int .i64 q, .int .i64 S, .int .i64 tax] w fun e w' => e = .returned (.slice (some ⟨b, 0, none⟩) n c) ∧ ROwn w' b (rowsF l (spreadF (netF l) (rateF t) (oldF l) n q S tax)) ∧ Below w0.heap.size w0 w' := by
  obtain ⟨ta, tc, rfl⟩ := hT.slice
  subst ht
  obtain ⟨x0, x1⟩ := hx
  have hmk := run_make_row' (P := Tryz.prog) 91 3 (.int .i64 0) 8 Tryz.underlying91 Ints.info rfl .i64 .i64 t.length (by omega) (by omega)
  have HT := hide hT
  have HN := hide hN
  have HL := hide hn
  have hbw : b < w.heap.size := hR.1.1
  obtain ⟨G, hG⟩ : ∃ G, G = grp (rateF t) q S := ⟨_, rfl⟩
  have HG := hide hG
  have HSB : Hid (∀ k, k ≤ t.length → 0 ≤ sumG G (partJ (netF l) q) k ∧ sumG G (partJ (netF l) q) k ≤ 3000000000030000) := hide (fun k hk => by
    have := sumG_bd (g := G) (f := partJ (netF l) q) (m := 500000000005000) (by omega) k (fun i hi => by
      obtain ⟨h0, h1⟩ := hN i (by omega)
      exact (partJ_bd h0 h1 q0 q1).2.2.2.2.2.1)
    have h2 : (k : Int) * 500000000005000 ≤ 6 * 500000000005000 := Int.mul_le_mul_of_nonneg_right (by omega) (by omega)
    omega)
  have hRA : Hid (ROwn (w.alloc (.cells (madeCells #[.int .i64 0] t.length) 3)) b l) := hide (hR.kept ((Below.refl _ _).alloc (Nat.le_refl _) _))
  have hBA : Hid (Below w0.heap.size w0 (w.alloc (.cells (madeCells #[.int .i64 0] t.length) 3))) := hide (below_trans hB ((Below.refl _ _).alloc (Nat.le_refl _) _))
  clear hT hN hn hR hB hG
  go_enter Tryz.func39, Tryz.ntmps39
  go_wp2
  go_loopw [11, 13] (fun lv s wr => ∃ k : Nat, k ≤ t.length ∧ s = .int .i64 k ∧ lv = .int .i64 (tax - sumG G (partJ (netF l) q) k) ∧ Hid (ROwn wr b (rowsF l (tax1 (netF l) (oldF l) G q k))) ∧ Hid (Cells wr w.heap.size 0 (restL t.length (rest1 (netF l) G q k))) ∧ Hid (Below w0.heap.size w0 wr)) (fun _ s _ => t.length - (intOf s).toNat)
  case atStart =>
    refine ⟨0, Nat.zero_le _, rfl, by simp [sumG], ?_, ?_, hBA⟩
    · have e : rowsF l (tax1 (netF l) (oldF l) G q 0) = l := by
        rw [show tax1 (netF l) (oldF l) G q 0 = oldF l from funext fun j => by simp [tax1]]
        exact rowsF_old l
      rw [e]; exact hRA
    · have e : restL t.length (rest1 (netF l) G q 0) = List.replicate t.length 0 := by
        rw [show rest1 (netF l) G q 0 = fun _ => 0 from funext fun j => by simp [rest1]]
        exact (restL_zero _).symm
      rw [e]; exact Cells.made w t.length _
  case round =>
    obtain ⟨k, hk, rfl, rfl, D1, D2, D3⟩ := hrel
    clear hmk hRA hBA
    have hsk := unhide HSB k hk
    have hgw : w.heap.size < wr.heap.size := (unhide D2).1
    by_cases hlt : k < t.length
    · obtain ⟨b2, o2, cap2, hcf, hc⟩ : ∃ b2 o2 cap2, Value.slice ta t.length tc = .slice (some ⟨b2, o2, none⟩) t.length cap2 ∧ EC w0 b2 o2 t := by
        rcases unhide HT with ⟨h, _⟩ | h
        · rw [h] at hlt; simp at hlt
        · exact h
      simp only [Value.slice.injEq, true_and] at hcf
      obtain ⟨rfl, rfl⟩ := hcf
      have c1 := ((hc.kept (unhide D3)).2 k hlt).2.2
      have hll := unhide HL
      have hkl : k < (rowsF l (tax1 (netF l) (oldF l) G q k)).length := by rw [rowsF_len]; omega
      obtain ⟨_, r1, r2⟩ := (unhide D1).1.2 k hkl
      have f2 := (unhide D1).2 (k * 3 + 2)
      rw [rowsF_get _ _ (by omega), Nat.zero_add] at r1 r2
      simp only at r1 r2
      obtain ⟨s0, f0⟩ := (unhide D2).2 k (by rw [restL_len]; exact hlt)
      rw [Nat.zero_add] at s0 f0
      have k1 : (0 : Int) ≤ (k : Int) := by omega
      have k2 : (k : Int) < (t.length : Int) := by omega
      have hGk : G k = (decide (rateF t k = q) && decide (0 < S)) := by rw [unhide HG]; rfl
      have hbne : w.heap.size ≠ b := by omega
      cases hg : G k with
      | false =>
        have E1 : Hid (rowsF l (tax1 (netF l) (oldF l) G q (k + 1)) = rowsF l (tax1 (netF l) (oldF l) G q k)) := hide (rowsF_congr l (fun j _ => tax1_no hg j))
        have E2 : Hid (restL t.length (rest1 (netF l) G q (k + 1)) = restL t.length (rest1 (netF l) G q k)) := hide (restL_congr (fun j _ => rest1_no hg j))
        have E3 : Hid (sumG G (partJ (netF l) q) (k + 1) = sumG G (partJ (netF l) q) k) := hide (by rw [sumG, hg]; simp)
        rw [hg] at hGk
        clear s0 f0 r1 r2 f2 hg hc hkl
        by_cases he : rateF t k = q
        · have hS : decide (0 < S) = false := by
            rw [decide_eq_true he] at hGk; simpa using hGk.symm
          have hS2 : ¬ 0 < S := of_decide_eq_false hS
          have he2 : (t.getD k E0).2.2 = q := he
          rw [he2] at c1
          clear hGk he he2 hS
          go_wp2
          exact ⟨⟨k + 1, by omega, by go_num, by rw [unhide E3], by rw [unhide E1]; exact D1, by rw [unhide E2]; exact D2, D3⟩, by simp [intOf]; omega⟩
        · have he2 : ((t.getD k E0).2.2 == q) = false := beq_eq_false_iff_ne.2 he
          clear hGk he
          generalize (t.getD k E0).2.2 = x at *
          go_wp2
          exact ⟨⟨k + 1, by omega, by go_num, by rw [unhide E3], by rw [unhide E1]; exact D1, by rw [unhide E2]; exact D2, D3⟩, by simp [intOf]; omega⟩
      | true =>
        rw [hg] at hGk
        obtain ⟨he, hS⟩ := (Bool.and_eq_true _ _ ▸ hGk.symm)
        have hS2 := of_decide_eq_true hS
        have he2 : (t.getD k E0).2.2 = q := of_decide_eq_true he
        rw [he2] at c1
        obtain ⟨n0, n1⟩ := unhide HN k hlt
        have hpb := partJ_bd n0 n1 q0 q1
        have E3 : Hid (sumG G (partJ (netF l) q) (k + 1) = sumG G (partJ (netF l) q) k + partJ (netF l) q k) := hide (by rw [sumG, hg]; simp)
        have hsk1 := unhide HSB (k + 1) (by omega)
        rw [unhide E3] at hsk1
        have E1 : Hid (∀ W x, x = partJ (netF l) q k → ROwn W b (rowsF l (tax1 (netF l) (oldF l) G q k)) → ROwn (W.setCell ⟨b, k * 3 + 2, none⟩ (.int .i64 x)) b (rowsF l (tax1 (netF l) (oldF l) G q (k + 1)))) := hide (fun W x hx hW => by
          subst hx
          have := rown_tax hW hkl (partJ (netF l) q k)
          rw [rowsF_set l _ (by omega)] at this
          rwa [show (fun j => if j = k then partJ (netF l) q k else tax1 (netF l) (oldF l) G q k j) = tax1 (netF l) (oldF l) G q (k + 1) from funext fun j => (tax1_yes hg j).symm] at this)
        have E2 : Hid (∀ W x, x = restJ (netF l) q k + 1 → Cells W w.heap.size 0 (restL t.length (rest1 (netF l) G q k)) → Cells (W.setCell ⟨w.heap.size, k, none⟩ (.int .i64 x)) w.heap.size 0 (restL t.length (rest1 (netF l) G q (k + 1)))) := hide (fun W x hx hW => by
          subst hx
          have := hW.set (k := k) (by rw [restL_len]; exact hlt) (restJ (netF l) q k + 1)
          rw [restL_set _ hlt, Nat.zero_add] at this
          rwa [show (fun j => if j = k then restJ (netF l) q k + 1 else rest1 (netF l) G q k j) = rest1 (netF l) G q (k + 1) from funext fun j => (rest1_yes hg j).symm] at this)
        have HPJ : Hid (partJ (netF l) q k = netF l k / 10000 * q + netF l k % 10000 * q / 10000) := hide rfl
        have HRJ : Hid (restJ (netF l) q k = netF l k % 10000 * q % 10000) := hide rfl
        rw [unhide HPJ] at E3 hsk1 hpb
        rw [unhide HRJ] at hpb
        clear hg hc hkl he hS hGk he2
        generalize sumG G (partJ (netF l) q) k = sg at *
        generalize tax1 (netF l) (oldF l) G q k k = ot at *
        generalize (restL t.length (rest1 (netF l) G q k)).getD k 0 = orr at *
        have hnx : (l.getD k R0).2.1 = netF l k := rfl
        generalize netF l k = x at *
        obtain ⟨⟨p1, p2⟩, ⟨p3, p4⟩, ⟨p5, p6⟩, ⟨p7, p8⟩, ⟨p9, p10⟩, ⟨p11, p12⟩, p13, p14⟩ := hpb
        clear hnx
        go_wp2
        exact ⟨⟨k + 1, by omega, by go_num, by rw [unhide E3]; go_num, hide (rown_off (unhide E1 wr _ (unhide HPJ).symm (unhide D1)) _ hbne), hide (unhide E2 _ _ (by rw [unhide HRJ]) (cells_off (unhide D2) _ (fun h => hbne h.symm))), hide (((unhide D3).setCell (p := ⟨b, k * 3 + 2, none⟩) hb _).setCell (p := ⟨w.heap.size, k, none⟩) (by simp; omega) _)⟩, by simp [intOf]; omega⟩
    · obtain rfl : k = t.length := by omega
      have hll := unhide HL
      have F1 : Hid (ROwn wr b (rowsF l (tax2 (netF l) (oldF l) G (fun _ => false) q))) := hide (by
        have := unhide D1
        rwa [rowsF_congr l (fun j hj => tax1_end (netF l) (oldF l) G q (show j < t.length by omega))] at this)
      have F2 : Hid (Cells wr w.heap.size 0 (restL t.length (rest2 (netF l) G (fun _ => false) q))) := hide (by
        have := unhide D2
        rwa [restL_congr (fun j hj => rest1_end (netF l) G q hj)] at this)
      have HEND : Hid (∀ W p, Pk G (restJ (netF l) q) t.length p → (((tax - sumG G (partJ (netF l) q) t.length) - ((List.range t.length).countP p : Int) ≤ 0 ∧ ((List.range t.length).countP p = 0 ∨ ((List.range t.length).countP p : Int) ≤ tax - sumG G (partJ (netF l) q) t.length)) ∨ (All G p t.length ∧ ((List.range t.length).countP p : Int) ≤ tax - sumG G (partJ (netF l) q) t.length)) → ROwn W b (rowsF l (tax2 (netF l) (oldF l) G p q)) → ROwn W b (rowsF l (spreadF (netF l) (rateF t) (oldF l) t.length q S tax))) := hide (fun W p hP h hW => by
        have hG := unhide HG
        subst hG
        rwa [rowsF_congr l (fun j hj => spread_end hP h (show j < t.length by omega))] at hW)
      have HRB : Hid (∀ j, j < t.length → 0 ≤ restJ (netF l) q j ∧ restJ (netF l) q j < 10000) := hide (fun j hj => by
        obtain ⟨h0, h1⟩ := unhide HN j hj
        exact (partJ_bd h0 h1 q0 q1).2.2.2.2.2.2)
      have HPB : Hid (∀ j, j < t.length → 0 ≤ partJ (netF l) q j ∧ partJ (netF l) q j ≤ 500000000005000) := hide (fun j hj => by
        obtain ⟨h0, h1⟩ := unhide HN j hj
        exact (partJ_bd h0 h1 q0 q1).2.2.2.2.2.1)
      have hL1 : -3000000000030000 ≤ tax - sumG G (partJ (netF l) q) t.length := by omega
      have hL2 : tax - sumG G (partJ (netF l) q) t.length ≤ 1000000000000000 := by omega
      have hbne : w.heap.size ≠ b := by omega
      have hw0 : w0.heap.size ≤ w.heap.size := by omega
      generalize tax - sumG G (partJ (netF l) q) t.length = L at *
      clear D1 D2 HN HG HSB HT hsk hlt hk hgw
      go_wp2
      go_loopw [11] (fun lv wr2 => ∃ (p : Nat → Bool) (cp : Nat), lv = .int .i64 (L - (cp : Int)) ∧ cp ≤ 6 ∧ Hid ((List.range t.length).countP p = cp) ∧ Hid (Pk G (restJ (netF l) q) t.length p) ∧ Hid (cp = 0 ∨ (cp : Int) ≤ L) ∧ Hid (ROwn wr2 b (rowsF l (tax2 (netF l) (oldF l) G p q))) ∧ Hid (Cells wr2 w.heap.size 0 (restL t.length (rest2 (netF l) G p q))) ∧ Hid (Below w0.heap.size w0 wr2)) (fun lv _ => (intOf lv).toNat)
      case atStart => exact ⟨fun _ => false, 0, by simp, by omega, hide (by simp), hide (Pk.none _ _ _), hide (.inl rfl), F1, F2, D3⟩
      case round =>
        obtain ⟨p, cp, rfl, hcp, HC, hP, hC, R1, R2, R3⟩ := hrel
        clear F1 F2 D3
        by_cases hpos : 0 < L - (cp : Int)
        · go_wp2
          go_loopw [16, 17] (fun bv s wr3 => ∃ k : Nat, k ≤ t.length ∧ s = .int .i64 k ∧ ((bv = .int .i64 (-1) ∧ Hid (All G p k)) ∨ ∃ bb : Nat, bv = .int .i64 bb ∧ Hid (Best G (restJ (netF l) q) p k bb)) ∧ Hid (Below wr.heap.size wr wr3)) (fun _ s _ => t.length - (intOf s).toNat)
          case atStart => exact ⟨0, Nat.zero_le _, rfl, .inl ⟨rfl, hide (fun i hi => by omega)⟩, hide (Below.refl _ _)⟩
          case round =>
            obtain ⟨k, hk, rfl, hbest, hB3⟩ := hrel
            have C2 := cells_below (unhide R2) (unhide hB3)
            by_cases hlt : k < t.length
            · obtain ⟨s0, _⟩ := C2.2 k (by rw [restL_len]; exact hlt)
              rw [restL_get _ hlt, Nat.zero_add] at s0
              have k1 : (0 : Int) ≤ (k : Int) := by omega
              have k2 : (k : Int) < (t.length : Int) := by omega
              rcases hbest with ⟨rfl, hA⟩ | ⟨bb, rfl, hBb⟩
              · clear C2
                cases hgk : (G k && !p k) with
                | false =>
                  have e : rest2 (netF l) G p q k = 0 := by unfold rest2; rw [hgk]; rfl
                  rw [e] at s0
                  have hA' := hide (All.more (unhide hA) hgk)
                  clear e hgk hA
                  go_wp2
                  go_quiet (fail)
                  go_wp2
                  exact ⟨⟨k + 1, by omega, by go_num, .inl ⟨rfl, hA'⟩, hide (below_drewN' (unhide hB3) _)⟩, by simp [intOf]; omega⟩
                | true =>
                  have e : rest2 (netF l) G p q k = restJ (netF l) q k + 1 := by unfold rest2; rw [hgk]; rfl
                  rw [e] at s0
                  obtain ⟨u0, u1⟩ := unhide HRB k hlt
                  have hF := hide (Best.first (r := restJ (netF l) q) (unhide hA) hgk)
                  clear e hgk hA
                  generalize restJ (netF l) q k = rk at *
                  have u2 : decide ((0 : Int) < rk + 1) = true := decide_eq_true (by omega)
                  go_wp2
                  go_quiet (fail)
                  go_wp2
                  exact ⟨⟨k + 1, by omega, by go_num, .inr ⟨k, rfl, hF⟩, hide (below_drewN' (unhide hB3) _)⟩, by simp [intOf]; omega⟩
              · obtain ⟨hbk, hbg, hbp, _⟩ := unhide hBb
                obtain ⟨s1, _⟩ := C2.2 bb (by rw [restL_len]; omega)
                rw [restL_get _ (show bb < t.length by omega), Nat.zero_add] at s1
                have e1 : rest2 (netF l) G p q bb = restJ (netF l) q bb + 1 := by unfold rest2; rw [hbg, hbp]; rfl
                rw [e1] at s1
                obtain ⟨v0, v1⟩ := unhide HRB bb (by omega)
                have b1 : (0 : Int) ≤ (bb : Int) := by omega
                have b2 : (bb : Int) < (t.length : Int) := by omega
                clear C2 hbg hbp e1
                cases hgk : (G k && !p k) with
                | false =>
                  have e : rest2 (netF l) G p q k = 0 := by unfold rest2; rw [hgk]; rfl
                  rw [e] at s0
                  have hA' := hide (Best.more (unhide hBb) (fun h => by rw [hgk] at h; cases h))
                  clear e hgk hBb
                  generalize restJ (netF l) q bb = rb at *
                  go_wp2
                  go_quiet (fail)
                  go_wp2
                  exact ⟨⟨k + 1, by omega, by go_num, .inr ⟨bb, rfl, hA'⟩, hide (below_drewN' (unhide hB3) _)⟩, by simp [intOf]; omega⟩
                | true =>
                  have e : rest2 (netF l) G p q k = restJ (netF l) q k + 1 := by unfold rest2; rw [hgk]; rfl
                  rw [e] at s0
                  obtain ⟨u0, u1⟩ := unhide HRB k hlt
                  have bn : ¬ (bb : Int) < 0 := by omega
                  by_cases hr : restJ (netF l) q bb < restJ (netF l) q k
                  · have hF := hide (Best.turn (unhide hBb) hgk hr)
                    have hr2 : restJ (netF l) q bb + 1 < restJ (netF l) q k + 1 := by omega
                    clear e hgk hBb hr
                    generalize restJ (netF l) q bb = rb at *
                    generalize restJ (netF l) q k = rk at *
                    have u2 : decide ((0 : Int) < rk + 1) = true := decide_eq_true (by omega)
                    have u3 : decide ((bb : Int) < 0) = false := decide_eq_false (by omega)
                    have u4 : decide (rb < rk) = true := decide_eq_true (by omega)
                    have u5 : decide (rb + 1 < rk + 1) = true := decide_eq_true (by omega)
                    clear bn hr2
                    go_wp2
                    go_quiet (fail)
                    go_wp2
                    exact ⟨⟨k + 1, by omega, by go_num, .inr ⟨k, rfl, hF⟩, hide (below_drewN' (unhide hB3) _)⟩, by simp [intOf]; omega⟩
                  · have hF := hide (Best.more (unhide hBb) (fun _ => by omega))
                    have hr2 : ¬ restJ (netF l) q bb + 1 < restJ (netF l) q k + 1 := by omega
                    clear e hgk hBb hr
                    generalize restJ (netF l) q bb = rb at *
                    generalize restJ (netF l) q k = rk at *
                    have u2 : decide ((0 : Int) < rk + 1) = true := decide_eq_true (by omega)
                    have u3 : decide ((bb : Int) < 0) = false := decide_eq_false (by omega)
                    have u4 : decide (rb < rk) = false := decide_eq_false (by omega)
                    have u5 : decide (rb + 1 < rk + 1) = false := decide_eq_false (by omega)
                    clear bn hr2
                    go_wp2
                    go_quiet (fail)
                    go_wp2
                    exact ⟨⟨k + 1, by omega, by go_num, .inr ⟨bb, rfl, hF⟩, hide (below_drewN' (unhide hB3) _)⟩, by simp [intOf]; omega⟩
            · obtain rfl : k = t.length := by omega
              have S1 := hide ((unhide R1).kept (unhide hB3))
              have S3 := hide (below_trans (unhide R3) (unhide hB3))
              have hCP := unhide HC
              rcases hbest with ⟨rfl, hA⟩ | ⟨bb, rfl, hBb⟩
              · have HR := hide (unhide HEND _ p (unhide hP) (.inr ⟨unhide hA, by rw [hCP]; omega⟩) (unhide S1))
                clear C2 hCP hA
                go_wp2
                go_ret
                exact ⟨rfl, unhide HR, unhide S3⟩
              · obtain ⟨hbk, hbg, hbp, _⟩ := unhide hBb
                have b1 : (0 : Int) ≤ (bb : Int) := by omega
                have b2 : (bb : Int) < (t.length : Int) := by omega
                have bn : ¬ (bb : Int) < 0 := by omega
                have hbl : bb < (rowsF l (tax2 (netF l) (oldF l) G p q)).length := by rw [rowsF_len]; omega
                obtain ⟨_, _, r2⟩ := (unhide S1).1.2 bb hbl
                have f2 := (unhide S1).2 (bb * 3 + 2)
                rw [rowsF_get _ _ (by omega), Nat.zero_add] at r2
                simp only at r2
                obtain ⟨s0, f0⟩ := C2.2 bb (by rw [restL_len]; omega)
                rw [Nat.zero_add] at s0 f0
                have e1 : tax2 (netF l) (oldF l) G p q bb = partJ (netF l) q bb := by unfold tax2; rw [hbg, hbp]; simp
                obtain ⟨v0, v1⟩ := unhide HPB bb (by omega)
                have HC2 : Hid ((List.range t.length).countP (fun i => p i || decide (i = bb)) = cp + 1) := hide (by rw [count_add t.length hbp, if_pos hbk, hCP])
                have hP2 := hide ((unhide hP).next (unhide hBb))
                have E1 : Hid (∀ W x, x = partJ (netF l) q bb + 1 → ROwn W b (rowsF l (tax2 (netF l) (oldF l) G p q)) → ROwn (W.setCell ⟨b, bb * 3 + 2, none⟩ (.int .i64 x)) b (rowsF l (tax2 (netF l) (oldF l) G (fun i => p i || decide (i = bb)) q))) := hide (fun W x hx hW => by
                  subst hx
                  have := rown_tax hW hbl (partJ (netF l) q bb + 1)
                  rw [rowsF_set l _ (by omega)] at this
                  rwa [show (fun j => if j = bb then partJ (netF l) q bb + 1 else tax2 (netF l) (oldF l) G p q j) = tax2 (netF l) (oldF l) G (fun i => p i || decide (i = bb)) q from funext fun j => by rw [tax2_next hbg hbp, e1]] at this)
                have E2 : Hid (∀ W, Cells W w.heap.size 0 (restL t.length (rest2 (netF l) G p q)) → Cells (W.setCell ⟨w.heap.size, bb, none⟩ (.int .i64 0)) w.heap.size 0 (restL t.length (rest2 (netF l) G (fun i => p i || decide (i = bb)) q))) := hide (fun W hW => by
                  have := hW.set (k := bb) (by rw [restL_len]; omega) 0
                  rw [restL_set _ (show bb < t.length by omega), Nat.zero_add] at this
                  rwa [show (fun j => if j = bb then 0 else rest2 (netF l) G p q j) = rest2 (netF l) G (fun i => p i || decide (i = bb)) q from funext fun j => (rest2_next j).symm] at this)
                have HC2' := hide C2
                have hcl : cp + 1 ≤ 6 := by
                  have h1 := List.countP_le_length (p := fun i => p i || decide (i = bb)) (l := List.range t.length)
                  rw [unhide HC2, List.length_range] at h1
                  omega
                rw [e1] at r2
                clear C2 hCP hBb hbg hbp e1 hbl
                generalize (restL t.length (rest2 (netF l) G p q)).getD bb 0 = orr at *
                have HV : Hid (partJ (netF l) q bb = partJ (netF l) q bb) := hide rfl
                generalize hv : partJ (netF l) q bb = pv at *
                clear hv
                go_wp2
                exact ⟨⟨fun i => p i || decide (i = bb), cp + 1, by go_num, hcl, HC2, hP2, hide (.inr (by omega)), hide (rown_off (unhide E1 _ _ rfl (unhide S1)) _ hbne), hide (unhide E2 _ (cells_off (unhide HC2') _ (fun h => hbne h.symm))), hide (((unhide S3).setCell (p := ⟨b, bb * 3 + 2, none⟩) hb _).setCell (p := ⟨w.heap.size, bb, none⟩) hw0 _)⟩, by simp [intOf]; omega⟩
        · have hCP := unhide HC
          have HR := hide (unhide HEND _ p (unhide hP) (.inl ⟨by rw [hCP]; omega, by rw [hCP]; exact unhide hC⟩) (unhide R1))
          clear hCP
          go_wp2
          go_ret
          exact ⟨rfl, unhide HR, unhide R3⟩
end Go.Proofs.YtnchgeiinkaefaaGreatDoor.Tax
end
