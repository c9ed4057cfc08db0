/-
  Texts of this proof laid together, in build order; each says of itself what it holds.
-/
import Derived.Test.YtnchgeiinkaefaaGreatDoorZai
import Derived.Test.YtnchgeiinkaefaaGreatDoorZaa
import Derived.Deep.QuietTactic
import Derived.BigQuiet
import Derived.Test.YtnchgeiinkaefaaGreatDoorProg
import Derived.WalkKit
import Derived.WalkLawsBesides
import Derived.Below
import Derived.Laws.IdiomStrings
import Derived.Lib.ItoaNum
import Derived.Lib.ItoaMem
import Derived.Test.YtnchgeiinkaefaaGreatDoorZab
import Derived.Test.YtnchgeiinkaefaaGreatDoorZac
import Derived.Test.YtnchgeiinkaefaaGreatDoorZaf
import Derived.Test.YtnchgeiinkaefaaGreatDoorZae
import Derived.Deep.AppendLies
import Derived.Deep.AppendSrc
import Derived.Deep.RegionHeldLaw
import Derived.OwnWalk
import Derived.Test.YtnchgeiinkaefaaGreatDoorZad
section
/-
  Expressions whose memory is the call's own: every list in a block of its own.
-/
namespace Go.Proofs.YtnchgeiinkaefaaGreatDoor.Rule
set_option linter.unusedVariables false
open Go.RowKit
open Tiers (T T0)

theorem frozen_of_block {W W' : World} {b j : Nat} (h : W'.heap[b]? = W.heap[b]?) : W'.frozen? ⟨b, j, none⟩ = W.frozen? ⟨b, j, none⟩ := by
  simp only [World.frozen?, h]
/-- steps in a block of their own, from lo on and below hi -/
def OT (lo hi : Nat) (W : World) (v : Value) (l : List T) : Prop :=
  lo ≤ hi ∧ ((l = [] ∧ ∃ a c, v = .slice a 0 c) ∨ ∃ b cap, v = .slice (some ⟨b, 0, none⟩) l.length cap ∧ lo ≤ b ∧ b < hi ∧ (∀ i, i < l.length → W.cell? ⟨b, i * 2, none⟩ = some (.int .i64 (l.getD i T0).1) ∧ W.cell? ⟨b, i * 2 + 1, none⟩ = some (.int .i64 (l.getD i T0).2)) ∧ ∀ j, W.frozen? ⟨b, j, none⟩ = false)
/-- things one behind the other -/
def Chain (R : Nat → Nat → X → Prop) : Nat → Nat → List X → Prop
  | s, e, [] => s ≤ e
  | s, e, x :: xs => ∃ m, s ≤ m ∧ m ≤ e ∧ R s m x ∧ Chain R m e xs
/-- a row of expressions in a block -/
def RowX (W : World) (b : Nat) (xs : List X) : Prop := (∀ i x, xs[i]? = some x → ∀ j u, (cells5 x)[j]? = some u → W.cell? ⟨b, i * 5 + j, none⟩ = some u) ∧ ∀ j, W.frozen? ⟨b, j, none⟩ = false
/-- a slice of expressions of its own, d deep at most, from lo on and below hi -/
def OS (W : World) : Nat → Nat → Nat → Value → List Ex → Prop
  | 0, lo, hi, v, l => lo ≤ hi ∧ l = [] ∧ ∃ a c, v = .slice a 0 c
  | d + 1, lo, hi, v, l => lo ≤ hi ∧ ((l = [] ∧ ∃ a c, v = .slice a 0 c) ∨ ∃ b cap xs, v = .slice (some ⟨b, 0, none⟩) l.length cap ∧ l = xs.map (·.1) ∧ l.length ≤ 1000 ∧ lo ≤ b ∧ b < hi ∧ RowX W b xs ∧
      Chain (fun s e x => (x.1.meter.size ≤ maxLen ∧ x.1.tiers.length ≤ maxLen) ∧ ∃ q, OS W d s q x.2.1 x.1.kids ∧ OT q e W x.2.2 x.1.tiers) (b + 1) hi xs)
def OX (W : World) (d s e : Nat) (x : X) : Prop := (x.1.meter.size ≤ maxLen ∧ x.1.tiers.length ≤ maxLen) ∧ ∃ q, OS W d s q x.2.1 x.1.kids ∧ OT q e W x.2.2 x.1.tiers
theorem OT.le {lo hi : Nat} {W : World} {v : Value} {l : List T} (h : OT lo hi W v l) : lo ≤ hi := h.1
theorem OS.le {W : World} : ∀ {d lo hi : Nat} {v : Value} {l : List Ex}, OS W d lo hi v l → lo ≤ hi
  | 0, _, _, _, _, h => h.1
  | d + 1, _, _, _, _, h => h.1
theorem OX.le {W : World} {d s e : Nat} {x : X} (h : OX W d s e x) : s ≤ e := by
  obtain ⟨_, q, h1, h2⟩ := h
  exact Nat.le_trans h1.le h2.le
theorem Chain.le {R : Nat → Nat → X → Prop} : ∀ {xs : List X} {s e : Nat}, Chain R s e xs → s ≤ e
  | [], _, _, h => h
  | x :: xs, _, _, ⟨m, h1, h2, _⟩ => Nat.le_trans h1 h2
theorem Chain.imp {R R' : Nat → Nat → X → Prop} {lo hi : Nat} (h : ∀ s e x, lo ≤ s → e ≤ hi → R s e x → R' s e x) : ∀ {xs : List X} {s e : Nat}, Chain R s e xs → lo ≤ s → e ≤ hi → Chain R' s e xs
  | [], _, _, k, _, _ => k
  | x :: xs, s, e, ⟨m, h1, h2, h3, h4⟩, k1, k2 => ⟨m, h1, h2, h s m x k1 (Nat.le_trans h2 k2) h3, Chain.imp h h4 (Nat.le_trans k1 h1) k2⟩
theorem Chain.append {R : Nat → Nat → X → Prop} : ∀ {xs ys : List X} {s m e : Nat}, Chain R s m xs → Chain R m e ys → (∀ s s' e x, s' ≤ s → R s e x → R s' e x) → Chain R s e (xs ++ ys)
  | [], [], s, m, e, h1, h2, _ => Nat.le_trans h1 h2
  | [], y :: ys, s, m, e, h1, ⟨p, k1, k2, k3, k4⟩, hR => ⟨p, Nat.le_trans h1 k1, k2, hR m s p y h1 k3, k4⟩
  | x :: xs, ys, s, m, e, ⟨p, k1, k2, k3, k4⟩, h2, hR => ⟨p, k1, Nat.le_trans k2 h2.le, k3, k4.append h2 hR⟩
theorem Chain.split {R : Nat → Nat → X → Prop} : ∀ {xs ys : List X} {s e : Nat}, Chain R s e (xs ++ ys) → ∃ m, s ≤ m ∧ m ≤ e ∧ Chain R s m xs ∧ Chain R m e ys
  | [], ys, s, e, h => ⟨s, Nat.le_refl _, h.le, Nat.le_refl _, h⟩
  | x :: xs, ys, s, e, ⟨p, k1, k2, k3, k4⟩ => by
    obtain ⟨m, a1, a2, a3, a4⟩ := Chain.split (xs := xs) k4
    exact ⟨m, Nat.le_trans k1 a1, a2, ⟨p, k1, a1, k3, a3⟩, a4⟩

theorem OT.kept {lo hi : Nat} {W W' : World} {v : Value} {l : List T} (h : OT lo hi W v l) (hs : Same lo hi W W') : OT lo hi W' v l := by
  obtain ⟨h0, h | ⟨b, cap, rfl, h1, h2, h3, h4⟩⟩ := h
  · exact ⟨h0, .inl h⟩
  · have hb := hs b h1 h2
    exact ⟨h0, .inr ⟨b, cap, rfl, h1, h2, fun i hi => ⟨(World.cell?_of_block (w := W) hb).trans (h3 i hi).1, (World.cell?_of_block (w := W) hb).trans (h3 i hi).2⟩, fun j => (frozen_of_block hb).trans (h4 j)⟩⟩
theorem OT.mono {lo hi lo' hi' : Nat} {W : World} {v : Value} {l : List T} (h : OT lo hi W v l) (h1 : lo' ≤ lo) (h2 : hi ≤ hi') : OT lo' hi' W v l := by
  obtain ⟨h0, h | ⟨b, cap, rfl, k1, k2, h3⟩⟩ := h
  · exact ⟨by omega, .inl h⟩
  · exact ⟨by omega, .inr ⟨b, cap, rfl, by omega, by omega, h3⟩⟩
theorem OT.tl {lo hi : Nat} {W : World} {v : Value} {l : List T} (h : OT lo hi W v l) : TL lo hi W v l := by
  obtain ⟨h0, h | ⟨b, cap, rfl, h1, h2, h3, h4⟩⟩ := h
  · exact .inl h
  · exact .inr ⟨b, 0, cap, rfl, h1, h2, fun i hi => by rw [Nat.zero_add]; exact h3 i hi⟩
theorem RowX.kept {W W' : World} {b : Nat} {xs : List X} (h : RowX W b xs) (hb : W'.heap[b]? = W.heap[b]?) : RowX W' b xs :=
  ⟨fun i x hx j u hu => (World.cell?_of_block (w := W) hb).trans (h.1 i x hx j u hu), fun j => (frozen_of_block hb).trans (h.2 j)⟩
theorem OS.kept {W W' : World} : ∀ {d lo hi : Nat} {v : Value} {l : List Ex}, OS W d lo hi v l → Same lo hi W W' → OS W' d lo hi v l
  | 0, _, _, _, _, h, _ => h
  | d + 1, lo, hi, v, l, ⟨h0, h⟩, hs => by
    refine ⟨h0, ?_⟩
    rcases h with h | ⟨b, cap, xs, h1, h2, h3, h4, h5, h6, h7⟩
    · exact .inl h
    · refine .inr ⟨b, cap, xs, h1, h2, h3, h4, h5, h6.kept (hs b h4 h5), h7.imp (lo := b + 1) (hi := hi) (fun s e x ks ke ⟨hz, q, hq1, hq2⟩ => ⟨hz, q, hq1.kept (fun c c1 c2 => hs c (by omega) (by have := hq2.le; omega)), hq2.kept (fun c c1 c2 => hs c (by have := hq1.le; omega) (by omega))⟩) (Nat.le_refl _) (Nat.le_refl _)⟩
theorem OS.mono {W : World} : ∀ {d lo hi lo' hi' : Nat} {v : Value} {l : List Ex}, OS W d lo hi v l → lo' ≤ lo → hi ≤ hi' → OS W d lo' hi' v l
  | 0, _, _, _, _, _, _, h, k1, k2 => ⟨Nat.le_trans k1 (Nat.le_trans h.1 k2), h.2⟩
  | d + 1, lo, hi, lo', hi', v, l, ⟨h0, h⟩, k1, k2 => by
    refine ⟨by omega, ?_⟩
    rcases h with h | ⟨b, cap, xs, h1, h2, h3, h4, h5, h6, h7⟩
    · exact .inl h
    · refine .inr ⟨b, cap, xs, h1, h2, h3, by omega, by omega, h6, ?_⟩
      have h8 : Chain (OX W d) (b + 1) hi xs := h7
      have := h8.append (ys := []) (e := hi') k2 (fun s s' e x hs ⟨hz, q, hq1, hq2⟩ => ⟨hz, q, hq1.mono hs (Nat.le_refl _), hq2⟩)
      rw [List.append_nil] at this
      exact this
theorem OX.kept {W W' : World} {d s e : Nat} {x : X} (h : OX W d s e x) (hs : Same s e W W') : OX W' d s e x := by
  obtain ⟨hz, q, h1, h2⟩ := h
  have := h1.le; have := h2.le
  exact ⟨hz, q, h1.kept (fun c c1 c2 => hs c c1 (by omega)), h2.kept (fun c c1 c2 => hs c (by omega) c2)⟩
theorem OX.mono {W : World} {d s e s' e' : Nat} {x : X} (h : OX W d s e x) (h1 : s' ≤ s) (h2 : e ≤ e') : OX W d s' e' x := by
  obtain ⟨hz, q, k1, k2⟩ := h
  exact ⟨hz, q, k1.mono h1 (Nat.le_refl _), k2.mono (Nat.le_refl _) h2⟩
theorem OS.up {W : World} : ∀ {d lo hi : Nat} {v : Value} {l : List Ex}, OS W d lo hi v l → OS W (d + 1) lo hi v l
  | 0, _, _, _, _, h => ⟨h.1, .inl h.2⟩
  | d + 1, lo, hi, v, l, ⟨h0, h⟩ => by
    refine ⟨h0, ?_⟩
    rcases h with h | ⟨b, cap, xs, h1, h2, h3, h4, h5, h6, h7⟩
    · exact .inl h
    · exact .inr ⟨b, cap, xs, h1, h2, h3, h4, h5, h6, h7.imp (lo := b + 1) (hi := hi) (fun s e x ks ke ⟨hz, q, hq1, hq2⟩ => ⟨hz, q, hq1.up, hq2⟩) (Nat.le_refl _) (Nat.le_refl _)⟩
theorem OS.nil {W : World} {d lo hi : Nat} (a : Option Addr) (c : Nat) (h : lo ≤ hi) : OS W d lo hi (.slice a 0 c) [] := by
  cases d with
  | zero => exact ⟨h, rfl, _, _, rfl⟩
  | succ d => exact ⟨h, .inl ⟨rfl, _, _, rfl⟩⟩
theorem OT.nil {W : World} {lo hi : Nat} (a : Option Addr) (c : Nat) (h : lo ≤ hi) : OT lo hi W (.slice a 0 c) [] := ⟨h, .inl ⟨rfl, _, _, rfl⟩⟩
theorem Chain.mem {R : Nat → Nat → X → Prop} : ∀ {xs : List X} {s e : Nat}, Chain R s e xs → ∀ x ∈ xs, ∃ p q, s ≤ p ∧ q ≤ e ∧ R p q x
  | x :: xs, s, e, ⟨m, h1, h2, h3, h4⟩, y, hy => by
    rcases List.mem_cons.1 hy with rfl | h
    · exact ⟨s, m, Nat.le_refl _, h2, h3⟩
    · obtain ⟨p, q, a, b, c⟩ := h4.mem y h
      exact ⟨p, q, by omega, b, c⟩
theorem OS.es {W : World} : ∀ {d lo hi : Nat} {v : Value} {l : List Ex}, OS W d lo hi v l → ES lo hi W d v l
  | 0, _, _, _, _, h => h.2
  | d + 1, lo, hi, v, l, ⟨h0, h⟩ => by
    rcases h with h | ⟨b, cap, xs, rfl, rfl, h3, h4, h5, h6, h7⟩
    · exact .inl h
    · refine .inr ⟨b, 0, cap, rfl, by unfold maxLen; omega, h4, h5, fun i hi' => ?_⟩
      have hi2 : i < xs.length := by simpa using hi'
      have hx : xs[i]? = some xs[i] := List.getElem?_eq_getElem hi2
      have e : (xs.map (·.1)).getD i E0 = xs[i].1 := by simp [List.getD, hi2]
      rw [e]
      obtain ⟨p, q, a1, a2, hz, r, hq1, hq2⟩ := Chain.mem h7 xs[i] (List.getElem_mem _)
      have hc : ∀ j u, (cells5 xs[i])[j]? = some u → W.cell? ⟨b, 0 + i * 5 + j, none⟩ = some u := fun j u hu => by
        rw [Nat.zero_add]; exact h6.1 i _ hx j u hu
      have := hq1.le; have := hq2.le
      exact ⟨xs[i].2.1, xs[i].2.2, ⟨hc 0 _ rfl, hc 1 _ rfl, hc 2 _ rfl, hc 3 _ rfl, hc 4 _ rfl⟩, hz, (OS.es hq1).mono (by omega) (by omega), hq2.tl.mono (by omega) (by omega)⟩
theorem OX.ev {W : World} {d s e : Nat} {x : X} (h : OX W d s e x) : EV s e W d (.agg #[.int .i64 x.1.kind, .int .i64 x.1.num, .string x.1.meter, x.2.1, x.2.2]) x.1 := by
  obtain ⟨hz, q, h1, h2⟩ := h
  have := h1.le; have := h2.le
  exact ⟨x.2.1, x.2.2, rfl, hz, h1.es.mono (Nat.le_refl _) (by omega), h2.tl.mono (by omega) (Nat.le_refl _)⟩

/-! ### marks -/
/-- the marks of n steps -/
def marksT (k n : Nat) : List T := (List.range n).map fun i => (((k + 2 * i : Nat) : Int), ((k + 2 * i + 1 : Nat) : Int))
mutual
/-- an expression that was marked, from k on; k' is the next mark -/
def MkE : Nat → Ex → Nat → Prop
  | k, .mk kd n m ks ts, k' => kd = (k : Int) ∧ n = ((k + 1 : Nat) : Int) ∧ m = Evs.mt (k + 2) ∧ ∃ k1, MkL (k + 3) ks k1 ∧ ts = marksT k1 ts.length ∧ k' = k1 + 2 * ts.length
def MkL : Nat → List Ex → Nat → Prop
  | k, [], k' => k' = k
  | k, e :: es, k' => ∃ k1, MkE k e k1 ∧ MkL k1 es k'
end
theorem MkL.snoc : ∀ {l : List Ex} {e : Ex} {k k1 k2 : Nat}, MkL k l k1 → MkE k1 e k2 → MkL k (l ++ [e]) k2
  | [], e, k, k1, k2, h, h' => by
    rw [MkL] at h
    subst h
    rw [List.nil_append, MkL]
    exact ⟨k2, h', by rw [MkL]⟩
  | a :: l, e, k, k1, k2, h, h' => by
    rw [MkL] at h
    obtain ⟨k3, h1, h2⟩ := h
    rw [List.cons_append, MkL]
    exact ⟨k3, h1, h2.snoc h'⟩
mutual
theorem MkE.le : ∀ {e : Ex} {k k' : Nat}, MkE k e k' → k + 3 ≤ k'
  | .mk kd n m ks ts, k, k', h => by
    rw [MkE] at h
    obtain ⟨_, _, _, k1, h1, _, rfl⟩ := h
    have := MkL.le h1
    omega
theorem MkL.le : ∀ {l : List Ex} {k k' : Nat}, MkL k l k' → k ≤ k'
  | [], k, k', h => by rw [MkL] at h; omega
  | e :: es, k, k', h => by
    rw [MkL] at h
    obtain ⟨k1, h1, h2⟩ := h
    have := MkE.le h1
    have := MkL.le h2
    omega
end
theorem MkL.split : ∀ {a b : List Ex} {k k' : Nat}, MkL k (a ++ b) k' → ∃ k1, MkL k a k1 ∧ MkL k1 b k'
  | [], b, k, k', h => ⟨k, by rw [MkL], h⟩
  | e :: a, b, k, k', h => by
    rw [List.cons_append, MkL] at h
    obtain ⟨k1, h1, h2⟩ := h
    obtain ⟨k2, h3, h4⟩ := MkL.split h2
    exact ⟨k2, by rw [MkL]; exact ⟨k1, h1, h3⟩, h4⟩
end Go.Proofs.YtnchgeiinkaefaaGreatDoor.Rule
end

section
/-
  The laws' own marks on steps: markRuleTierS, heldRuleTierS.
-/
namespace Go.Proofs.YtnchgeiinkaefaaGreatDoor.Rule
set_option linter.unusedVariables false
open Go.RowKit
open Tiers (T T0 TR hide unhide below_trans)

/-- what lies outside of the blocks from lo on and below hi is as it was -/
structure Out (lo hi : Nat) (w w' : World) : Prop where
  os : w'.os = w.os
  tape : w'.tape = w.tape
  output : w'.output = w.output
  size : w.heap.size ≤ w'.heap.size
  block : ∀ j, j < w.heap.size → ¬ (lo ≤ j ∧ j < hi) → w'.heap[j]? = w.heap[j]?
theorem Out.refl (lo hi : Nat) (w : World) : Out lo hi w w := ⟨rfl, rfl, rfl, Nat.le_refl _, fun _ _ _ => rfl⟩
theorem Out.trans {lo hi : Nat} {a b c : World} (h : Out lo hi a b) (k : Out lo hi b c) : Out lo hi a c :=
  ⟨k.os.trans h.os, k.tape.trans h.tape, k.output.trans h.output, Nat.le_trans h.size k.size, fun j hj hn => (k.block j (Nat.lt_of_lt_of_le hj h.size) hn).trans (h.block j hj hn)⟩
theorem Out.mono {lo hi lo' hi' : Nat} {a b : World} (h : Out lo hi a b) (h1 : lo' ≤ lo) (h2 : hi ≤ hi') : Out lo' hi' a b :=
  ⟨h.os, h.tape, h.output, h.size, fun j hj hn => h.block j hj (by omega)⟩
theorem Out.set {lo hi : Nat} (w : World) (b o : Nat) (u : Value) (h1 : lo ≤ b) (h2 : b < hi) : Out lo hi w (w.setCell ⟨b, o, none⟩ u) := by
  refine ⟨rfl, rfl, rfl, by simp, fun j hj hn => ?_⟩
  exact Below.heap_setCell w ⟨b, o, none⟩ u j (fun e => hn (by simp at e; omega))
theorem Out.below {lo hi : Nat} {a b : World} (h : Below a.heap.size a b) : Out lo hi a b := ⟨h.os, h.tape, h.output, h.size, fun j hj _ => h.block j hj⟩
theorem Out.same {lo hi s e : Nat} {a b : World} (h : Out lo hi a b) (hd : e ≤ lo ∨ hi ≤ s) (he : e ≤ a.heap.size) : Same s e a b := fun j j1 j2 => h.block j (by omega) (by omega)
theorem Out.toBelow {lo hi : Nat} {a b : World} (h : Out lo hi a b) {B : Nat} (hB : B ≤ lo) (hs : B ≤ a.heap.size) : Below B a b := ⟨h.os, h.tape, h.output, h.size, fun j hj => h.block j (by omega) (by omega)⟩

/-- a row of steps in a block -/
def RowT (W : World) (b : Nat) (l : List T) : Prop := (∀ i, i < l.length → W.cell? ⟨b, i * 2, none⟩ = some (.int .i64 (l.getD i T0).1) ∧ W.cell? ⟨b, i * 2 + 1, none⟩ = some (.int .i64 (l.getD i T0).2)) ∧ ∀ j, W.frozen? ⟨b, j, none⟩ = false
theorem RowT.setA {W : World} {b : Nat} {l : List T} (h : RowT W b l) {k : Nat} (hk : k < l.length) (q : Int) : RowT (W.setCell ⟨b, k * 2, none⟩ (.int .i64 q)) b (l.set k (q, (l.getD k T0).2)) := by
  refine ⟨fun i hi => ?_, fun j => by simpa [World.frozen?_setCell] using h.2 j⟩
  have hi' : i < l.length := by simpa using hi
  obtain ⟨c0, c1⟩ := h.1 i hi'
  have d1 : (⟨b, k * 2, none⟩ : Addr) ≠ ⟨b, i * 2 + 1, none⟩ := fun he => by simp only [Addr.mk.injEq, and_true, true_and] at he; omega
  by_cases e : i = k
  · subst e
    rw [List.getD_eq_getElem?_getD, List.getElem?_set_self hi']
    exact ⟨World.cell?_setCell_same _ _ _ c0, by rw [World.cell?_setCell_other _ _ _ _ d1]; exact c1⟩
  · have d0 : (⟨b, k * 2, none⟩ : Addr) ≠ ⟨b, i * 2, none⟩ := fun he => by simp only [Addr.mk.injEq, and_true, true_and] at he; omega
    rw [World.cell?_setCell_other _ _ _ _ d0, World.cell?_setCell_other _ _ _ _ d1, c0, c1, List.getD_eq_getElem?_getD, List.getD_eq_getElem?_getD, List.getElem?_set_ne (by omega)]
    exact ⟨rfl, rfl⟩
theorem RowT.setB {W : World} {b : Nat} {l : List T} (h : RowT W b l) {k : Nat} (hk : k < l.length) (q : Int) : RowT (W.setCell ⟨b, k * 2 + 1, none⟩ (.int .i64 q)) b (l.set k ((l.getD k T0).1, q)) := by
  refine ⟨fun i hi => ?_, fun j => by simpa [World.frozen?_setCell] using h.2 j⟩
  have hi' : i < l.length := by simpa using hi
  obtain ⟨c0, c1⟩ := h.1 i hi'
  have d0 : (⟨b, k * 2 + 1, none⟩ : Addr) ≠ ⟨b, i * 2, none⟩ := fun he => by simp only [Addr.mk.injEq, and_true, true_and] at he; omega
  by_cases e : i = k
  · subst e
    rw [List.getD_eq_getElem?_getD, List.getElem?_set_self hi']
    exact ⟨by rw [World.cell?_setCell_other _ _ _ _ d0]; exact c0, World.cell?_setCell_same _ _ _ c1⟩
  · have d1 : (⟨b, k * 2 + 1, none⟩ : Addr) ≠ ⟨b, i * 2 + 1, none⟩ := fun he => by simp only [Addr.mk.injEq, and_true, true_and] at he; omega
    rw [World.cell?_setCell_other _ _ _ _ d0, World.cell?_setCell_other _ _ _ _ d1, c0, c1, List.getD_eq_getElem?_getD, List.getD_eq_getElem?_getD, List.getElem?_set_ne (by omega)]
    exact ⟨rfl, rfl⟩
end Go.Proofs.YtnchgeiinkaefaaGreatDoor.Rule
end

section
/-
  The laws' own marks on expressions: markRuleExprS, heldRuleExprS.
-/
namespace Go.Proofs.YtnchgeiinkaefaaGreatDoor.Rule
set_option linter.unusedVariables false
open Go.RowKit RegIn
open Tiers (T T0 TR hide unhide below_trans)

theorem RowX.set {W : World} {b : Nat} {xs : List X} {j c : Nat} {u : Value} {x x' : X} (h : RowX W b xs) (hx : xs[j]? = some x) (hc : c < 5) (hu : (cells5 x')[c]? = some u) (h' : ∀ i, i ≠ c → (cells5 x')[i]? = (cells5 x)[i]?) :
    RowX (W.setCell ⟨b, j * 5 + c, none⟩ u) b (xs.set j x') := by
  refine ⟨fun i y hy i5 v hv => ?_, fun q => by simpa [World.frozen?_setCell] using h.2 q⟩
  have h5 : ∀ (z : X) (v : Value), (cells5 z)[i5]? = some v → i5 < 5 := fun z v hv => by
    have := (List.getElem?_eq_some_iff.1 hv).1
    simpa [cells5] using this
  have hi5 := h5 y v hv
  obtain ⟨c0, hc0⟩ : ∃ z, (cells5 x)[c]? = some z := ⟨_, List.getElem?_eq_getElem (by simpa [cells5] using hc)⟩
  by_cases e : i = j
  · subst e
    have hlt : i < xs.length := (List.getElem?_eq_some_iff.1 hx).1
    rw [List.getElem?_set_self hlt] at hy
    obtain rfl : x' = y := by simpa using hy
    by_cases e2 : i5 = c
    · subst e2
      rw [hu] at hv
      obtain rfl : u = v := by simpa using hv
      exact World.cell?_setCell_same _ _ _ (h.1 i x hx i5 c0 hc0)
    · rw [h' i5 e2] at hv
      rw [World.cell?_setCell_other _ _ _ _ (fun he => by simp only [Addr.mk.injEq, and_true, true_and] at he; omega)]
      exact h.1 i x hx i5 v hv
  · rw [List.getElem?_set_ne (by omega)] at hy
    rw [World.cell?_setCell_other _ _ _ _ (fun he => by simp only [Addr.mk.injEq, and_true, true_and] at he; omega)]
    exact h.1 i y hy i5 v hv
theorem RowX.as {W : World} {b : Nat} {xs : List X} {j : Nat} {x x' : X} (h : RowX W b xs) (hx : xs[j]? = some x) (h' : cells5 x' = cells5 x) : RowX W b (xs.set j x') := by
  refine ⟨fun i y hy i5 v hv => ?_, h.2⟩
  by_cases e : i = j
  · subst e
    have hlt : i < xs.length := (List.getElem?_eq_some_iff.1 hx).1
    rw [List.getElem?_set_self hlt] at hy
    obtain rfl : x' = y := by simpa using hy
    rw [h'] at hv
    exact h.1 i x hx i5 v hv
  · rw [List.getElem?_set_ne (by omega)] at hy
    exact h.1 i y hy i5 v hv
theorem set_at {ys zs : List X} {x x' : X} : (ys ++ x :: zs).set ys.length x' = ys ++ x' :: zs := by
  rw [List.set_append_right _ _ (Nat.le_refl _), Nat.sub_self, List.set_cons_zero]
theorem get_at {ys zs : List X} {x : X} : (ys ++ x :: zs)[ys.length]? = some x := by simp

end Go.Proofs.YtnchgeiinkaefaaGreatDoor.Rule
end

section
/-
  Numbers in decimals (spec.l18Dec): the digits of strconv.Itoa.
-/
namespace Go.Proofs.YtnchgeiinkaefaaGreatDoor.Dec
set_option linter.unusedVariables false
open Go.RowKit

theorem hide {p : Prop} (h : p) : Hid p := h
theorem unhide {p : Prop} (h : Hid p) : p := h
theorem below2 {a b c : World} (h1 : Below a.heap.size a b) (h2 : Below b.heap.size b c) : Below a.heap.size a c := h1.trans (h2.mono h1.size)
/-- a string of one byte -/
theorem conv1 (w : World) (c : Int) (h0 : 0 ≤ c) (h1 : c ≤ 255) : (convert 97 9 (.slice (some ⟨w.heap.size, 0, none⟩) 1 1)).run Tryz.prog (w.alloc (.cells #[.int .u8 c] 5)) = .ok (.string ⟨#[UInt8.ofNat c.toNat]⟩) (w.alloc (.cells #[.int .u8 c] 5)) := by
  have h := run_convert_bytes_back (P := Tryz.prog) (w.alloc (.cells #[.int .u8 c] 5)) 97 9 5 ⟨w.heap.size, 0, none⟩ 1 [UInt8.ofNat c.toNat] Tryz.underlying97 Tryz.underlying5 Tryz.underlying9 ?_
  · exact h
  · intro j hj
    obtain rfl : j = 0 := by simpa using hj
    have e : ((UInt8.ofNat c.toNat).toNat : Int) = c := by
      simp; omega
    rw [Addr.add_lit]
    show (w.alloc _).cell? _ = some (.int .u8 ((UInt8.ofNat c.toNat).toNat : Int))
    rw [e]
    have e1 := (MapKept.heap_alloc w (.cells #[.int .u8 c] 5)).1
    simp only [World.cell?]
    rw [e1]; rfl

theorem cat (a b : List UInt8) : ((⟨a.toArray⟩ : ByteArray) ++ ⟨b.toArray⟩) = ⟨(a ++ b).toArray⟩ := by
  apply ByteArray.ext; simp

theorem digit (k : Nat) : 48 + UInt8.ofNat k = UInt8.ofNat (48 + k) := by rw [UInt8.ofNat_add]; rfl

theorem dec_step {m : Nat} (h : 9 < m) : Lib.decDigits m = Lib.decDigits (m / 10) ++ [UInt8.ofNat (48 + m % 10)] := by
  rw [Lib.decDigits, dif_neg (by omega)]

theorem nDig (n : Nat) (h : n ≤ 9223372036854775807) : (Lib.decDigits n).length ≤ 20 := by
  have key : ∀ k n : Nat, n < 10 ^ (k + 1) → (Lib.decDigits n).length ≤ k + 1 := by
    intro k
    induction k with
    | zero => intro n h; rw [Lib.decDigits_one (by omega)]; simp
    | succ k ih =>
      intro n h
      by_cases h9 : 9 < n
      · rw [dec_step h9]
        have := ih (n / 10) (by rw [Nat.pow_succ] at h; omega)
        simp; omega
      · rw [Lib.decDigits_one (by omega)]; simp
  exact key 19 n (by omega)

set_option maxRecDepth 20000 in
theorem dec_pos (n : Nat) (w : World) (hn : n ≤ 9223372036854775807) :
    Calls Tryz.prog 110 #[.int .i64 n] w fun e w' => e = .returned (.string ⟨(Lib.decDigits n).toArray⟩) ∧ Below w.heap.size w w' := by
  go_enter Tryz.func110, Tryz.ntmps110
  go_wp2
  go_loopw [0, 3] (fun t0 t3 w1 => ∃ (m : Nat) (out : List UInt8), m ≤ n ∧ t0 = .int .i64 m ∧ t3 = .string ⟨out.toArray⟩ ∧ Hid (Lib.decDigits n = Lib.decDigits m ++ out) ∧ out.length + m ≤ n ∧ (out.length = 0 ∨ out.length + m < n) ∧ Below w.heap.size w w1) (fun t0 _ _ => (intOf t0).toNat)
  case atStart => exact ⟨n, [], Nat.le_refl _, rfl, rfl, by show _ = _; simp, by simp, .inl rfl, Below.refl _ _⟩
  case round =>
    obtain ⟨m, out, hm, rfl, rfl, hd, hl, hl', hb⟩ := hrel
    have hl2 : 1 + out.length ≤ 9223372036854775807 := by omega
    by_cases h9 : 9 < m
    · have hcv := conv1 wr (48 + (m : Int) % 10) (by omega) (by omega)
      go_wp2
      refine ⟨⟨m / 10, UInt8.ofNat (48 + m % 10) :: out, by omega, by go_num, ?_, ?_, by simp; omega, by simp; omega, hb.alloc hb.size _⟩, by simp [intOf]; omega⟩
      · have := cat [48 + UInt8.ofNat (m % 10)] out
        rw [digit] at this ⊢
        exact congrArg Value.string this
      · show _ = _
        rw [unhide hd, dec_step h9]; simp
    · have hcv := conv1 wr (48 + (m : Int)) (by omega) (by omega)
      go_wp2
      go_ret
      refine ⟨?_, hb.alloc hb.size _⟩
      have e1 := cat [48 + UInt8.ofNat m] out
      have e2 : Lib.decDigits n = [48 + UInt8.ofNat m] ++ out := by rw [unhide hd, Lib.decDigits_one (by omega), digit]
      rw [e2, ← e1]; rfl

set_option maxRecDepth 20000 in
theorem dec_neg (n : Nat) (w : World) (h1 : 1 ≤ n) (hn : n ≤ 9223372036854775807) :
    Calls Tryz.prog 110 #[.int .i64 (-(n : Int))] w fun e w' => e = .returned (.string ⟨(45 :: Lib.decDigits n).toArray⟩) ∧ Below w.heap.size w w' := by
  go_enter Tryz.func110, Tryz.ntmps110
  go_wp2_with fail
  refine (dec_pos n w hn).mono ?_
  rintro e w1 ⟨rfl, hb⟩
  have hl : 1 + (Lib.decDigits n).length ≤ 9223372036854775807 := by have := nDig n hn; omega
  go_wp2
  go_ret
  exact ⟨congrArg (fun x => Ending.returned (.string x)) (cat [45] (Lib.decDigits n)), hb⟩

set_option maxRecDepth 20000 in
theorem dec_min (w : World) :
    Calls Tryz.prog 110 #[.int .i64 (-9223372036854775808)] w fun e w' => e = .returned (.string ⟨(45 :: Lib.decDigits 9223372036854775808).toArray⟩) ∧ Below w.heap.size w w' := by
  have e : (⟨(45 :: Lib.decDigits 9223372036854775808).toArray⟩ : ByteArray) = ⟨#[45, 57, 50, 50, 51, 51, 55, 50, 48, 51, 54, 56, 53, 52, 55, 55, 53, 56, 48, 56]⟩ := by
    rw [Lib.decDigits_eq]; decide +kernel
  rw [e]
  go_enter Tryz.func110, Tryz.ntmps110
  go_wp2
  go_ret
  exact ⟨rfl, Below.refl _ _⟩

/-- l18Dec: strconv.Itoa's text, at every int -/
theorem dec (n : Int) (w : World) (h0 : -9223372036854775808 ≤ n) (h1 : n ≤ 9223372036854775807) :
    Calls Tryz.prog 110 #[.int .i64 n] w fun e w' => e = .returned (.string ⟨(Lib.itoa n).toArray⟩) ∧ Below w.heap.size w w' := by
  by_cases hn : 0 ≤ n
  · obtain ⟨m, rfl⟩ := Int.eq_ofNat_of_zero_le hn
    rw [Lib.itoa_nonneg]; exact dec_pos m w (by omega)
  · obtain ⟨m, hm⟩ := Int.eq_ofNat_of_zero_le (show 0 ≤ -n by omega)
    obtain rfl : n = -(m : Int) := by omega
    rw [Lib.itoa_neg m (by omega)]
    by_cases hb : m ≤ 9223372036854775807
    · exact dec_neg m w (by omega) hb
    · obtain rfl : m = 9223372036854775808 := by omega
      exact dec_min w
end Go.Proofs.YtnchgeiinkaefaaGreatDoor.Dec
end

section
/-
  l2Steps, DrawRuleStep: drawn steps and a drawn number.
-/
namespace Go.Proofs.YtnchgeiinkaefaaGreatDoor.Draw
set_option linter.unusedVariables false
open Go.RowKit App2
open Tiers (T T0 TR TC)

abbrev fT : T → Value := fun t => .int .i64 t.1
abbrev gT : T → Value := fun t => .int .i64 t.2
abbrev OwnT (W : World) (B b cap : Nat) (l : List T) : Prop := Own2 184 fT gT W B b cap l

theorem infoEx : ∃ i, Tryz.prog.info? 184 = some i ∧ i.zero = some (.agg #[.int .i64 0, .int .i64 0]) ∧ i.size = 2 ∧ i.bytes = 16 := by
  obtain ⟨i, hi, h2⟩ := Option.map_eq_some_iff.1 Tiers.infoT
  simp only [Prod.mk.injEq] at h2
  exact ⟨i, hi, h2.1, h2.2.1, h2.2.2⟩

theorem ownsRow_le {w : World} {base base' size n : Nat} {e : TypeId} {v : Value} {xs : List Value} (h : w.ownsRow base e size v n xs) (hb : base' ≤ base) : w.ownsRow base' e size v n xs := by
  obtain ⟨h1, h2⟩ := h
  refine ⟨h1, ?_⟩
  rcases h2 with h | ⟨g, cap, cur, h3, h4, h5⟩
  · exact .inl h
  · exact .inr ⟨g, cap, cur, h3, by omega, h5⟩

end Go.Proofs.YtnchgeiinkaefaaGreatDoor.Draw
end

section
/-
  The places of a rate, and what each of them owes: plain mathematics.
-/
namespace Go.Proofs.YtnchgeiinkaefaaGreatDoor.Tax
set_option linter.unusedVariables false
open Share (cnt moreB)

/-- the lines with this rate -/
def plc (rate : Nat → Int) (q : Int) (n : Nat) : List Nat := (List.range n).filter fun j => decide (rate j = q)
theorem plc_mem {rate : Nat → Int} {q : Int} {n j : Nat} : j ∈ plc rate q n ↔ j < n ∧ rate j = q := by simp [plc]
theorem plc_lt {rate : Nat → Int} {q : Int} {n i : Nat} (h : i < (plc rate q n).length) : (plc rate q n).getD i 0 < n ∧ rate ((plc rate q n).getD i 0) = q := by
  have : (plc rate q n).getD i 0 ∈ plc rate q n := by simp [List.getD, h]
  exact plc_mem.1 this
theorem plc_asc (rate : Nat → Int) (q : Int) (n : Nat) : (plc rate q n).Pairwise (· < ·) := List.Pairwise.filter _ List.pairwise_lt_range
theorem plc_len (rate : Nat → Int) (q : Int) (n : Nat) : (plc rate q n).length ≤ n := by
  have := List.length_filter_le (fun j => decide (rate j = q)) (List.range n)
  simpa [plc] using this
theorem plc_ord {rate : Nat → Int} {q : Int} {n i k : Nat} (hi : i < (plc rate q n).length) (hk : k < (plc rate q n).length) : ((plc rate q n).getD i 0 < (plc rate q n).getD k 0) ↔ i < k := by
  have h := List.pairwise_iff_getElem.1 (plc_asc rate q n)
  have e1 : (plc rate q n).getD i 0 = (plc rate q n)[i] := by simp [List.getD, hi]
  have e2 : (plc rate q n).getD k 0 = (plc rate q n)[k] := by simp [List.getD, hk]
  rw [e1, e2]
  constructor
  · intro hlt
    rcases Nat.lt_trichotomy i k with h1 | h1 | h1
    · exact h1
    · subst h1; omega
    · have := h k i hk hi h1; omega
  · intro h1; exact h i k hi hk h1
theorem list_of_getD {α : Type} (l : List α) (d : α) : l = (List.range l.length).map fun i => l.getD i d := by
  apply List.ext_getElem (by simp)
  intro i h1 h2
  simp [List.getD, h1]
theorem getD_map' {α β : Type} (l : List α) (f : α → β) (d : α) (d' : β) {i : Nat} (h : i < l.length) : (l.map f).getD i d' = f (l.getD i d) := by
  simp [List.getD, h]
theorem cnt_plc {rate : Nat → Int} {r : Nat → Int} {q S : Int} {n i : Nat} (hS : 0 < S) (hi : i < (plc rate q n).length) : cnt ((plc rate q n).map r) i (plc rate q n).length = cntG (grp rate q S) r n ((plc rate q n).getD i 0) := by
  have e1 : cntG (grp rate q S) r n ((plc rate q n).getD i 0) = (plc rate q n).countP fun k => ahd r k ((plc rate q n).getD i 0) := by
    unfold cntG plc
    rw [List.countP_filter]
    apply List.countP_congr
    intro k hk
    simp only [grp, decide_eq_true hS, Bool.and_true, Bool.and_eq_true]
    rw [and_comm]
  rw [e1]
  unfold cnt
  have e2 : ∀ (p : Nat → Bool), (plc rate q n).countP p = (List.range (plc rate q n).length).countP fun k => p ((plc rate q n).getD k 0) := fun p => by
    conv => lhs; rw [list_of_getD (plc rate q n) 0]
    rw [List.countP_map]; rfl
  rw [e2]
  apply List.countP_congr
  intro k hk
  have hk' : k < (plc rate q n).length := by simpa using hk
  unfold moreB ahd
  rw [getD_map' _ r 0 0 hk', getD_map' _ r 0 0 hi]
  have := plc_ord (rate := rate) (q := q) hk' hi
  simp only [Bool.or_eq_true, Bool.and_eq_true, decide_eq_true_eq, beq_iff_eq, this]
theorem sum_plc (rate f : Nat → Int) (q : Int) : ∀ n, ((plc rate q n).map f).sum = sumG (fun j => decide (rate j = q)) f n
  | 0 => by simp [plc, sumG]
  | n + 1 => by
    have ih := sum_plc rate f q n
    unfold plc at ih ⊢
    rw [List.range_succ, List.filter_append, List.map_append, List.sum_append, ih, sumG]
    by_cases h : rate n = q
    · simp [h]
    · simp [h]
theorem sumG_congr {g g' : Nat → Bool} {f : Nat → Int} : ∀ n, (∀ j, j < n → g j = g' j) → sumG g f n = sumG g' f n
  | 0, _ => rfl
  | n + 1, h => by rw [sumG, sumG, sumG_congr n (fun j hj => h j (by omega)), h n (by omega)]
theorem sumG_zero {g : Nat → Bool} {f : Nat → Int} : ∀ n, (∀ j, j < n → 0 ≤ f j) → sumG g f n ≤ 0 → ∀ j, j < n → g j = true → f j = 0
  | 0, _, _, j, hj, _ => by omega
  | n + 1, h, hs, j, hj, hg => by
    have h0 : 0 ≤ sumG g f n := by
      clear hs
      have : ∀ k, k ≤ n → 0 ≤ sumG g f k := by
        intro k
        induction k with
        | zero => intro _; simp [sumG]
        | succ k ih =>
          intro hk
          rw [sumG]
          have := ih (by omega)
          have := h k (by omega)
          split <;> omega
      exact this n (Nat.le_refl _)
    rw [sumG] at hs
    by_cases e : j = n
    · subst e
      rw [if_pos hg] at hs
      have := h j (by omega); omega
    · refine sumG_zero n (fun i hi => h i (by omega)) ?_ j (by omega) hg
      have := h n (by omega)
      split at hs <;> omega
theorem sumG_nonneg {g : Nat → Bool} {f : Nat → Int} : ∀ {n : Nat}, (∀ j, j < n → 0 ≤ f j) → 0 ≤ sumG g f n
  | 0, _ => by simp [sumG]
  | n + 1, h => by
    have := sumG_nonneg (g := g) (n := n) (fun j hj => h j (by omega))
    have := h n (by omega)
    rw [sumG]; split <;> omega
theorem sumG_all0 {rate f : Nat → Int} {q : Int} : ∀ {n : Nat}, (∀ j, j < n → rate j = q → f j = 0) → sumG (fun j => decide (rate j = q)) f n = 0
  | 0, _ => rfl
  | n + 1, h => by
    have := sumG_all0 (n := n) (fun j hj => h j (by omega))
    rw [sumG, this]
    by_cases e : rate n = q
    · rw [h n (by omega) e]; simp
    · simp [e]
theorem partV_zero (q : Int) : Coin.partV 0 q 10000 ≤ 0 := by
  unfold Coin.partV
  split
  · have e : Coin.sz 0 = 0 := by decide
    rw [if_neg (by omega), e]
    have e2 : (0 : Int) / 10000 * q + 0 % 10000 * q / 10000 = 0 := by simp
    have e3 : (0 : Int) % 10000 * q % 10000 = 0 := by simp
    rw [e2, e3]
    have := Coin.rndE_low (q := 0) (r := 0) (d := 10000) (by omega)
    omega
  · omega
/-- what the shares come to, one by one -/
theorem deal_plc {net rate : Nat → Int} {q : Int} {n i : Nat} (hN : ∀ j, j < n → 0 ≤ net j) (q0 : 0 ≤ q) (hi : i < (plc rate q n).length) (old : Nat → Int) (hO : ∀ j, j < n → rate j = q → old j = 0) :
    ((plc rate q n).map (partJ net q)).getD i 0 + (if (cnt ((plc rate q n).map (restJ net q)) i (plc rate q n).length : Int) < Coin.partV (sumQ net rate n q) q 10000 - ((plc rate q n).map (partJ net q)).sum then 1 else 0) = spreadF net rate old n q (sumQ net rate n q) (Coin.partV (sumQ net rate n q) q 10000) ((plc rate q n).getD i 0) := by
  obtain ⟨hj, hr⟩ := plc_lt hi
  rw [getD_map' _ (partJ net q) 0 0 hi, sum_plc]
  unfold spreadF
  by_cases hS : 0 < sumQ net rate n q
  · have hg : grp rate q (sumQ net rate n q) ((plc rate q n).getD i 0) = true := by unfold grp; rw [hr, decide_eq_true hS]; simp
    rw [hg, if_pos rfl, cnt_plc hS hi]
    have e : sumG (fun j => decide (rate j = q)) (partJ net q) n = sumG (grp rate q (sumQ net rate n q)) (partJ net q) n := sumG_congr n (fun j _ => by unfold grp; rw [decide_eq_true hS, Bool.and_true])
    rw [e]
  · have hg : grp rate q (sumQ net rate n q) ((plc rate q n).getD i 0) = false := by unfold grp; rw [decide_eq_false hS]; simp
    rw [hg]
    simp only [Bool.false_eq_true, if_false]
    rw [hO _ hj hr]
    have hz := sumG_zero (g := fun j => decide (rate j = q)) n hN (show sumG (fun j => decide (rate j = q)) net n ≤ 0 by have := hS; unfold sumQ at this; omega)
    have hnj : ∀ j, j < n → rate j = q → partJ net q j = 0 := fun j hj' hr' => by unfold partJ; rw [hz j hj' (decide_eq_true hr')]; simp
    have hs0 : sumQ net rate n q = 0 := by
      have h1 : 0 ≤ sumG (fun j => decide (rate j = q)) net n := (sumG_nonneg hN)
      unfold sumQ at hS ⊢; omega
    rw [hnj _ hj hr, hs0]
    have hp0 : sumG (fun j => decide (rate j = q)) (partJ net q) n = 0 := sumG_all0 hnj
    rw [hp0]
    have : Coin.partV 0 q 10000 ≤ 0 := partV_zero q
    rw [if_neg (by omega)]; rfl
end Go.Proofs.YtnchgeiinkaefaaGreatDoor.Tax
end

section
/-
  'append(out, list...)' on a slice of rows of the call's own.
-/
namespace Go.Proofs.YtnchgeiinkaefaaGreatDoor.BRow
set_option linter.unusedVariables false
open Go.RowKit

/-- three values each -/
abbrev flatR (l : List R) : List Value := l.flatMap fun x => [.string x.1, .int .i64 x.2.1, .int .i64 x.2.2]
theorem flatR_len : ∀ l : List R, (flatR l).length = l.length * 3
  | [] => rfl
  | x :: xs => by
    have := flatR_len xs
    simp only [flatR, List.flatMap_cons, List.length_append, List.length_cons, List.length_nil] at this ⊢
    omega
theorem flatR_get : ∀ (l : List R) (i : Nat) (x : R), l[i]? = some x → (flatR l)[i * 3]? = some (.string x.1) ∧ (flatR l)[i * 3 + 1]? = some (.int .i64 x.2.1) ∧ (flatR l)[i * 3 + 2]? = some (.int .i64 x.2.2)
  | [], i, x, h => by simp at h
  | y :: ys, 0, x, h => by
    simp only [List.getElem?_cons_zero, Option.some.injEq] at h
    subst h
    simp [flatR]
  | y :: ys, i + 1, x, h => by
    have := flatR_get ys i x (by simpa using h)
    have e1 : (i + 1) * 3 = i * 3 + 1 + 1 + 1 := by omega
    rw [e1]
    simp only [flatR, List.flatMap_cons, List.cons_append, List.nil_append, List.getElem?_cons_succ]
    exact this
theorem flatR_one (l : List R) : ∀ u ∈ flatR l, u.oneCell' = true := by
  intro u hu
  obtain ⟨x, _, hx⟩ := List.mem_flatMap.1 hu
  simp only [List.mem_cons, List.not_mem_nil, or_false] at hx
  rcases hx with rfl | rfl | rfl <;> rfl
theorem flatR_at {l : List R} {j : Nat} {u : Value} (h : (flatR l)[j]? = some u) : j / 3 < l.length ∧ u = (if j % 3 = 0 then .string (l.getD (j / 3) R0).1 else if j % 3 = 1 then .int .i64 (l.getD (j / 3) R0).2.1 else .int .i64 (l.getD (j / 3) R0).2.2) := by
  have hj : j < (flatR l).length := (List.getElem?_eq_some_iff.1 h).1
  rw [flatR_len] at hj
  have hlt : j / 3 < l.length := by omega
  refine ⟨hlt, ?_⟩
  have hx : l[j / 3]? = some (l.getD (j / 3) R0) := by rw [List.getElem?_eq_getElem hlt]; simp [List.getD, hlt]
  obtain ⟨h0, h1, h2⟩ := flatR_get l (j / 3) _ hx
  rcases (by omega : j % 3 = 0 ∨ j % 3 = 1 ∨ j % 3 = 2) with e | e | e
  · have ej : j = j / 3 * 3 := by omega
    rw [ej, h0] at h
    rw [if_pos e]
    exact (Option.some.inj h).symm
  · have ej : j = j / 3 * 3 + 1 := by omega
    rw [ej, h1] at h
    rw [if_neg (by omega), if_pos e]
    exact (Option.some.inj h).symm
  · have ej : j = j / 3 * 3 + 2 := by omega
    rw [ej, h2] at h
    rw [if_neg (by omega), if_neg (by omega)]
    exact (Option.some.inj h).symm

/-- the slice of the call's own in block b, not below B, holds l -/
def XR (W : World) (B b c : Nat) (l : List R) : Prop := W.ownsRow B 55 3 (.slice (some ⟨b, 0, none⟩) l.length c) l.length (flatR l)

theorem XR.own {W : World} {B b c : Nat} {l : List R} (h : XR W B b c l) : B ≤ b ∧ ROwn W b l := by
  obtain ⟨_, h2⟩ := h
  rcases h2 with ⟨h2, _⟩ | ⟨g, cap, cur, hv, hb, hg, _, _, hc3, hc4⟩
  · simp at h2
  · simp only [Value.slice.injEq, Option.some.injEq, Addr.mk.injEq, and_true, true_and] at hv
    obtain ⟨rfl, rfl⟩ := hv
    refine ⟨hb, ⟨?_, fun i hi => ?_⟩, fun j => ?_⟩
    · refine Nat.lt_of_not_le fun hle => ?_
      rw [Array.getElem?_eq_none hle] at hg; simp at hg
    · have hx : l[i]? = some (l.getD i R0) := by rw [List.getElem?_eq_getElem hi]; simp [List.getD, hi]
      obtain ⟨h0, h1, h2⟩ := flatR_get l i _ hx
      rw [← hc4, List.getElem?_take_of_lt (by omega)] at h0 h1 h2
      simp only [World.cell?, hg]
      refine ⟨?_, ?_, ?_⟩
      · simpa using h0
      · simpa using h1
      · simpa using h2
    · simp only [World.frozen?, hg]; simp
theorem XR.cap {W : World} {B b c : Nat} {l : List R} (h : XR W B b c l) : l.length ≤ c := by
  rcases h.2 with ⟨h3, _⟩ | ⟨g, cap, cur, hv, _, _, h3, _⟩
  · simp at h3
  · simp only [Value.slice.injEq, Option.some.injEq, Addr.mk.injEq, and_true, true_and] at hv
    omega
theorem XR.rn {W : World} {B b c : Nat} {l : List R} (h : XR W B b c l) : RN B W (.slice (some ⟨b, 0, none⟩) l.length c) l := .inr ⟨b, c, rfl, ⟨h.own.1, h.cap⟩, h.own.2⟩
theorem XR.kept {W W' : World} {B b c : Nat} {l : List R} {r : Option Nat} (h : XR W B b c l) (hg : W.grownBy W' r) (hne : some b ≠ r) : XR W' B b c l :=
  World.ownsRow.kept h hg (.inr (by simpa [Value.ownBlock] using hne))
theorem XR.made (w : World) (B : Nat) (hB : B ≤ w.heap.size) (t : TypeId) (ht : t = 55) : XR (w.alloc (.cells #[] t)) B w.heap.size 0 [] := by
  subst ht
  refine ⟨rfl, .inr ⟨w.heap.size, 0, #[], rfl, hB, (MapKept.heap_alloc w _).1, by simp, by simp, by simp, by simp⟩⟩

theorem srcR_of {w : World} {xv : Value} {l2 : List R} (hx : RR w xv l2) (i : TypeInfo) (hs : i.size = 3) : Src Tryz.prog i.size 26 xv l2.length (flatR l2) w := by
  rw [hs]
  rcases hx with ⟨rfl, a, c, rfl⟩ | ⟨b2, o2, cap2, rfl, hc⟩
  · cases a with
    | none => exact Src.ofNil w Tryz.underlying26 c
    | some ad => exact Src.ofSlice w Tryz.underlying26 ad 0 c [] rfl (fun j u hj => by simp at hj) (fun u hu => by simp at hu)
  · refine Src.ofSlice w Tryz.underlying26 ⟨b2, o2, none⟩ l2.length cap2 (flatR l2) (flatR_len l2) (fun j u hj => ?_) (flatR_one l2)
    obtain ⟨hlt, rfl⟩ := flatR_at hj
    obtain ⟨c0, c1, c2⟩ := hc.2 (j / 3) hlt
    rw [Addr.add_lit]
    rcases (by omega : j % 3 = 0 ∨ j % 3 = 1 ∨ j % 3 = 2) with e | e | e
    · rw [if_pos e]
      have ej : o2 + j = o2 + j / 3 * 3 := by omega
      rw [ej]; exact c0
    · rw [if_neg (by omega), if_pos e]
      have ej : o2 + j = o2 + j / 3 * 3 + 1 := by omega
      rw [ej]; exact c1
    · rw [if_neg (by omega), if_neg (by omega)]
      have ej : o2 + j = o2 + j / 3 * 3 + 2 := by omega
      rw [ej]; exact c2

theorem run_appR (w : World) (ty : TypeId) (B b c n : Nat) (l l2 : List R) (xv : Value) (hn : l.length = n) (hown : XR w B b c l) (hx : RR w xv l2) (hl : l.length + l2.length ≤ 3000000) (hB : B ≤ w.heap.size) :
    ∃ b' c' w', (Builtin.append_ #[26, 26] ty #[.slice (some ⟨b, 0, none⟩) n c, xv]).run Tryz.prog w = .ok (.slice (some ⟨b', 0, none⟩) (n + l2.length) c') w' ∧ XR w' B b' c' (l ++ l2) ∧ w.grownBy w' (some b) ∧ (b = b' ∨ b' = w.heap.size) ∧ b' < w'.heap.size := by
  subst hn
  obtain ⟨i, hi, h2⟩ := Option.map_eq_some_iff.1 infoR
  simp only [Prod.mk.injEq] at h2
  obtain ⟨hz, hs, hb⟩ := h2
  by_cases h0 : l2 = []
  · subst h0
    have hsrc := srcR_of hx i hs
    obtain ⟨hB', hE⟩ := hown.own
    have hcap : l.length ≤ c := by
      rcases hown.2 with ⟨h3, _⟩ | ⟨g, cap, cur, hv, _, _, h3, _⟩
      · simp at h3
      · simp only [Value.slice.injEq, Option.some.injEq, Addr.mk.injEq, and_true, true_and] at hv
        omega
    have := run_append_room_src (P := Tryz.prog) w 26 26 ty 55 i Tryz.underlying26 hi b 0 l.length c xv 0 [] hsrc (by omega) (fun j hj => by simp at hj) (fun j hj => by simp at hj)
    refine ⟨b, c, w, this, by rw [List.append_nil]; exact hown, World.grownBy.refl _ _, .inl rfl, hE.1.1⟩
  · rcases hx with ⟨h0', _⟩ | ⟨b2, o2, cap2, rfl, hc⟩
    · exact absurd h0' h0
    have hpos : 0 < l2.length := List.length_pos_iff.2 h0
    have hER : RR w (.slice (some ⟨b2, o2, none⟩) l2.length cap2) l2 := .inr ⟨b2, o2, cap2, rfl, hc⟩
    have hnews : ∀ j u, (flatR l2)[j]? = some u → w.cell? ((⟨b2, o2, none⟩ : Addr).add j) = some u := fun j u hj => by
      obtain ⟨hlt, rfl⟩ := flatR_at hj
      obtain ⟨c0, c1, c2⟩ := hc.2 (j / 3) hlt
      rw [Addr.add_lit]
      rcases (by omega : j % 3 = 0 ∨ j % 3 = 1 ∨ j % 3 = 2) with e | e | e
      · rw [if_pos e]
        have ej : o2 + j = o2 + j / 3 * 3 := by omega
        rw [ej]; exact c0
      · rw [if_neg (by omega), if_pos e]
        have ej : o2 + j = o2 + j / 3 * 3 + 1 := by omega
        rw [ej]; exact c1
      · rw [if_neg (by omega), if_neg (by omega)]
        have ej : o2 + j = o2 + j / 3 * 3 + 2 := by omega
        rw [ej]; exact c2
    obtain ⟨g, cap, w', hr, g2, g3, g4, g5⟩ := run_append_lies (P := Tryz.prog) w 26 ty B 55 i _ 3 32 Tryz.underlying26 hi hz hs hb rfl (by omega) _ l.length (flatR l) hown ⟨b2, o2, none⟩ l2.length cap2 (flatR l2) (flatR_len l2) hnews (flatR_one l2) hpos (by unfold maxLen; omega) (by omega) hB _ rfl
    refine ⟨g, cap, w', hr, ?_, g3, ?_, g5⟩
    · unfold XR
      rw [List.length_append, flatR, List.flatMap_append]
      exact g2
    · rcases g4 with g4 | g4
      · exact .inl (by simpa [Value.ownBlock] using g4)
      · exact .inr g4

section
variable {ops : Array Oper} {o : Oper} {a : Act} {K : Act → World → Prop} {Q : Exit → Act → World → Prop} {P0 : Prop}
theorem wp_appR (w : World) (s x : Operand) (ho : o.op = .call { callee := .builtin .append, args := #[s, x], argTypes := #[26, 26] })
    (B b c n : Nat) (l l2 : List R) (xv : Value) (hn : l.length = n) (hs : a.eval s = .slice (some ⟨b, 0, none⟩) n c) (hown : XR w B b c l) (hxv : a.eval x = xv) (hx : RR w xv l2) (hl : l.length + l2.length ≤ 3000000) (hB : B ≤ w.heap.size)
    (h : ∀ b' c' w', XR w' B b' c' (l ++ l2) → w.grownBy w' (some b) → (b = b' ∨ b' = w.heap.size) → b' < w'.heap.size → K (a.put o.dst (.slice (some ⟨b', 0, none⟩) (n + l2.length) c')) w') : o.wp Tryz.prog a w K Q := by
  obtain ⟨b', c', w', hr, h2, h3, h4, h5⟩ := run_appR w o.type B b c n l l2 xv hn hown hx hl hB
  unfold Oper.wp execOp
  simp only [ho, resolve, invoke, builtin, Sem.run_bind, Sem.run_pure, Result.andThen_ok, List.map_toArray, List.map_cons, List.map_nil, hs, hxv, hr]
  exact h b' c' w' h2 h3 h4 h5
theorem listAppR (w : World) {rest : List Oper} (hgd : o.guard = none) (s x : Operand) (ho : o.op = .call { callee := .builtin .append, args := #[s, x], argTypes := #[26, 26] })
    (B b c n : Nat) (l l2 : List R) (xv : Value) (hn : l.length = n) (hs : a.eval s = .slice (some ⟨b, 0, none⟩) n c) (hown : XR w B b c l) (hxv : a.eval x = xv) (hx : RR w xv l2) (hl : l.length + l2.length ≤ 3000000) (hB : B ≤ w.heap.size)
    (h : ∀ b' c' w', XR w' B b' c' (l ++ l2) → w.grownBy w' (some b) → (b = b' ∨ b' = w.heap.size) → b' < w'.heap.size → wpList Tryz.prog ops Q rest (a.put o.dst (.slice (some ⟨b', 0, none⟩) (n + l2.length) c')) w') :
    wpList Tryz.prog ops Q (o :: rest) a w :=
  wpList_plain hgd fun _ hK => wp_appR w s x ho B b c n l l2 xv hn hs hown hxv hx hl hB fun b' c' w' h2 h3 h4 h5 => hK _ _ (h b' c' w' h2 h3 h4 h5)
end
end Go.Proofs.YtnchgeiinkaefaaGreatDoor.BRow
end

section
/-
  'append(out, list...)' on a slice of events of the call's own.
-/
namespace Go.Proofs.YtnchgeiinkaefaaGreatDoor.Evs
set_option linter.unusedVariables false
open Go.RowKit

/-- three values each -/
abbrev flat3 (l : List E) : List Value := l.flatMap fun x => [.string x.1, .string x.2.1, .int .i64 x.2.2]
theorem flat3_len : ∀ l : List E, (flat3 l).length = l.length * 3
  | [] => rfl
  | x :: xs => by
    have := flat3_len xs
    simp only [flat3, List.flatMap_cons, List.length_append, List.length_cons, List.length_nil] at this ⊢
    omega
theorem flat3_get : ∀ (l : List E) (i : Nat) (x : E), l[i]? = some x → (flat3 l)[i * 3]? = some (.string x.1) ∧ (flat3 l)[i * 3 + 1]? = some (.string x.2.1) ∧ (flat3 l)[i * 3 + 2]? = some (.int .i64 x.2.2)
  | [], i, x, h => by simp at h
  | y :: ys, 0, x, h => by
    simp only [List.getElem?_cons_zero, Option.some.injEq] at h
    subst h
    simp [flat3]
  | y :: ys, i + 1, x, h => by
    have := flat3_get ys i x (by simpa using h)
    have e1 : (i + 1) * 3 = i * 3 + 1 + 1 + 1 := by omega
    rw [e1]
    simp only [flat3, List.flatMap_cons, List.cons_append, List.nil_append, List.getElem?_cons_succ]
    exact this
theorem flat3_one (l : List E) : ∀ u ∈ flat3 l, u.oneCell' = true := by
  intro u hu
  obtain ⟨x, _, hx⟩ := List.mem_flatMap.1 hu
  simp only [List.mem_cons, List.not_mem_nil, or_false] at hx
  rcases hx with rfl | rfl | rfl <;> rfl
theorem flat3_at {l : List E} {j : Nat} {u : Value} (h : (flat3 l)[j]? = some u) : j / 3 < l.length ∧ u = (if j % 3 = 0 then .string (l.getD (j / 3) E0).1 else if j % 3 = 1 then .string (l.getD (j / 3) E0).2.1 else .int .i64 (l.getD (j / 3) E0).2.2) := by
  have hj : j < (flat3 l).length := (List.getElem?_eq_some_iff.1 h).1
  rw [flat3_len] at hj
  have hlt : j / 3 < l.length := by omega
  refine ⟨hlt, ?_⟩
  have hx : l[j / 3]? = some (l.getD (j / 3) E0) := by rw [List.getElem?_eq_getElem hlt]; simp [List.getD, hlt]
  obtain ⟨h0, h1, h2⟩ := flat3_get l (j / 3) _ hx
  rcases (by omega : j % 3 = 0 ∨ j % 3 = 1 ∨ j % 3 = 2) with e | e | e
  · have ej : j = j / 3 * 3 := by omega
    rw [ej, h0] at h
    rw [if_pos e]
    exact (Option.some.inj h).symm
  · have ej : j = j / 3 * 3 + 1 := by omega
    rw [ej, h1] at h
    rw [if_neg (by omega), if_pos e]
    exact (Option.some.inj h).symm
  · have ej : j = j / 3 * 3 + 2 := by omega
    rw [ej, h2] at h
    rw [if_neg (by omega), if_neg (by omega)]
    exact (Option.some.inj h).symm

/-- the slice of the call's own in block b, not below B, holds l -/
def XO (W : World) (B b c : Nat) (l : List E) : Prop := W.ownsRow B 59 3 (.slice (some ⟨b, 0, none⟩) l.length c) l.length (flat3 l)

theorem XO.own {W : World} {B b c : Nat} {l : List E} (h : XO W B b c l) : B ≤ b ∧ EOwn W b l := by
  obtain ⟨_, h2⟩ := h
  rcases h2 with ⟨h2, _⟩ | ⟨g, cap, cur, hv, hb, hg, _, _, hc3, hc4⟩
  · simp at h2
  · simp only [Value.slice.injEq, Option.some.injEq, Addr.mk.injEq, and_true, true_and] at hv
    obtain ⟨rfl, rfl⟩ := hv
    refine ⟨hb, ⟨?_, fun i hi => ?_⟩, fun j => ?_⟩
    · refine Nat.lt_of_not_le fun hle => ?_
      rw [Array.getElem?_eq_none hle] at hg; simp at hg
    · have hx : l[i]? = some (l.getD i E0) := by rw [List.getElem?_eq_getElem hi]; simp [List.getD, hi]
      obtain ⟨h0, h1, h2⟩ := flat3_get l i _ hx
      rw [← hc4, List.getElem?_take_of_lt (by omega)] at h0 h1 h2
      simp only [World.cell?, hg]
      refine ⟨?_, ?_, ?_⟩
      · simpa using h0
      · simpa using h1
      · simpa using h2
    · simp only [World.frozen?, hg]; simp
theorem XO.cap {W : World} {B b c : Nat} {l : List E} (h : XO W B b c l) : l.length ≤ c := by
  rcases h.2 with ⟨h3, _⟩ | ⟨g, cap, cur, hv, _, _, h3, _⟩
  · simp at h3
  · simp only [Value.slice.injEq, Option.some.injEq, Addr.mk.injEq, and_true, true_and] at hv
    omega
theorem XO.en {W : World} {B b c : Nat} {l : List E} (h : XO W B b c l) : EN B W (.slice (some ⟨b, 0, none⟩) l.length c) l := .inr ⟨b, c, rfl, ⟨h.own.1, h.cap⟩, h.own.2⟩
theorem XO.kept {W W' : World} {B b c : Nat} {l : List E} {r : Option Nat} (h : XO W B b c l) (hg : W.grownBy W' r) (hne : some b ≠ r) : XO W' B b c l :=
  World.ownsRow.kept h hg (.inr (by simpa [Value.ownBlock] using hne))
theorem XO.made (w : World) (B : Nat) (hB : B ≤ w.heap.size) (t : TypeId) (ht : t = 59) : XO (w.alloc (.cells #[] t)) B w.heap.size 0 [] := by
  subst ht
  refine ⟨rfl, .inr ⟨w.heap.size, 0, #[], rfl, hB, (MapKept.heap_alloc w _).1, by simp, by simp, by simp, by simp⟩⟩

theorem src_of {w : World} {xv : Value} {l2 : List E} (hx : ER w xv l2) (i : TypeInfo) (hs : i.size = 3) : Src Tryz.prog i.size 31 xv l2.length (flat3 l2) w := by
  rw [hs]
  rcases hx with ⟨rfl, a, c, rfl⟩ | ⟨b2, o2, cap2, rfl, hc⟩
  · cases a with
    | none => exact Src.ofNil w Tryz.underlying31 c
    | some ad => exact Src.ofSlice w Tryz.underlying31 ad 0 c [] rfl (fun j u hj => by simp at hj) (fun u hu => by simp at hu)
  · refine Src.ofSlice w Tryz.underlying31 ⟨b2, o2, none⟩ l2.length cap2 (flat3 l2) (flat3_len l2) (fun j u hj => ?_) (flat3_one l2)
    obtain ⟨hlt, rfl⟩ := flat3_at hj
    obtain ⟨c0, c1, c2⟩ := hc.2 (j / 3) hlt
    rw [Addr.add_lit]
    rcases (by omega : j % 3 = 0 ∨ j % 3 = 1 ∨ j % 3 = 2) with e | e | e
    · rw [if_pos e]
      have ej : o2 + j = o2 + j / 3 * 3 := by omega
      rw [ej]; exact c0
    · rw [if_neg (by omega), if_pos e]
      have ej : o2 + j = o2 + j / 3 * 3 + 1 := by omega
      rw [ej]; exact c1
    · rw [if_neg (by omega), if_neg (by omega)]
      have ej : o2 + j = o2 + j / 3 * 3 + 2 := by omega
      rw [ej]; exact c2

section
variable {ops : Array Oper} {o : Oper} {a : Act} {K : Act → World → Prop} {Q : Exit → Act → World → Prop} {P0 : Prop}
end
end Go.Proofs.YtnchgeiinkaefaaGreatDoor.Evs
end
