/-
  Texts of this proof laid together, in build order; each says of itself what it holds.
-/
import Derived.Test.YtnchgeiinkaefaaGreatDoorZab
import Derived.Deep.AppendLies
import Derived.Test.YtnchgeiinkaefaaGreatDoorProg
import Derived.WalkKit
import Derived.Below
import Derived.Deep.QuietTactic
import Derived.BigQuiet
import Derived.Test.YtnchgeiinkaefaaGreatDoorZac
import Derived.WideLaws
import Derived.Deep.RegionWith
section
/-
  Kids that are appended one by one to a row of the call's own.
-/
namespace Go.Proofs.YtnchgeiinkaefaaGreatDoor.Rule
set_option linter.unusedVariables false
open Go.RowKit
open Tiers (T T0)

/-- a kid, and the values of its two lists -/
abbrev X := Ex × Value × Value
abbrev cells5 (x : X) : List Value := [.int .i64 x.1.kind, .int .i64 x.1.num, .string x.1.meter, x.2.1, x.2.2]
def flatK (l : List X) : List Value := l.flatMap cells5
theorem flatK_get : ∀ (l : List X) (i : Nat) (x : X), l[i]? = some x → ∀ j u, j < 5 → (cells5 x)[j]? = some u → (flatK l)[i * 5 + j]? = some u
  | [], i, x, h, _, _, _, _ => by simp at h
  | y :: l, 0, x, h, j, u, hj, hu => by
    simp at h; subst h
    have e : flatK (y :: l) = cells5 y ++ flatK l := rfl
    rw [e, Nat.zero_mul, Nat.zero_add, List.getElem?_append_left (by show j < 5; omega)]
    exact hu
  | y :: l, i + 1, x, h, j, u, hj, hu => by
    simp only [List.getElem?_cons_succ] at h
    have e : flatK (y :: l) = cells5 y ++ flatK l := rfl
    have e2 : (i + 1) * 5 + j = 5 + (i * 5 + j) := by omega
    rw [e, List.getElem?_append_right (by show 5 ≤ _; omega)]
    have e3 : (i + 1) * 5 + j - (cells5 y).length = i * 5 + j := by show (i + 1) * 5 + j - 5 = _; omega
    rw [e3]
    exact flatK_get l i x h j u hj hu
theorem flatK_append (a b : List X) : flatK (a ++ b) = flatK a ++ flatK b := by unfold flatK; simp

/-- what hangs on a kid lies in blocks from B on, the row's own not among them -/
def Kid (W : World) (B : Nat) (g : Option Nat) (d : Nat) (x : X) : Prop :=
  (x.1.meter.size ≤ maxLen ∧ x.1.tiers.length ≤ maxLen) ∧ ∃ lo hi, ES lo hi W d x.2.1 x.1.kids ∧ TL lo hi W x.2.2 x.1.tiers ∧ B ≤ lo ∧ hi ≤ W.heap.size ∧ ∀ q, g = some q → q < lo ∨ hi ≤ q
/-- a row of kids of the call's own -/
structure KS (W : World) (B d : Nat) (kv : Value) (l : List X) : Prop where
  own : W.ownsRow B 77 5 kv l.length (flatK l)
  kid : ∀ x ∈ l, Kid W B kv.ownBlock d x

theorem KS.nil (W : World) (B d : Nat) : KS W B d (.slice none 0 0) [] := ⟨⟨rfl, .inl ⟨rfl, rfl⟩⟩, fun x hx => by cases hx⟩
theorem Kid.kept {W W' : World} {B : Nat} {g : Option Nat} {d : Nat} {x : X} {r : Option Nat} (h : Kid W B g d x) (hg : W.grownBy W' r) (hr : ∀ q, r = some q → q < B ∨ g = some q) : Kid W' B g d x := by
  obtain ⟨hz, lo, hi, h1, h2, h3, h4, h5⟩ := h
  have hs : Same lo hi W W' := fun b b1 b2 => hg.block b (by omega) (fun e => by
    rcases hr b e.symm with h | h
    · omega
    · rcases h5 b h with h | h <;> omega)
  exact ⟨hz, lo, hi, h1.kept hs, h2.kept hs, h3, Nat.le_trans h4 hg.size, h5⟩
theorem KS.kept {W W' : World} {B d : Nat} {kv : Value} {l : List X} {r : Option Nat} (h : KS W B d kv l) (hg : W.grownBy W' r) (hr : ∀ q, r = some q → q < B) : KS W' B d kv l := by
  refine ⟨?_, fun x hx => (h.kid x hx).kept hg (fun q hq => .inl (hr q hq))⟩
  obtain ⟨h1, h2⟩ := h.own
  refine ⟨h1, ?_⟩
  rcases h2 with h2 | ⟨g, cap, cur, rfl, hB, hb, h3⟩
  · exact .inl h2
  · have hlt : g < W.heap.size := by
      refine Nat.lt_of_not_le fun hn => ?_
      have : W.heap[g]? = none := by simp; omega
      rw [this] at hb; cases hb
    exact .inr ⟨g, cap, cur, rfl, hB, (hg.block g hlt (fun e => by have := hr g e.symm; omega)).trans hb, h3⟩
theorem KS.form {W : World} {B d : Nat} {kv : Value} {l : List X} (h : KS W B d kv l) : ∃ a c, kv = .slice a l.length c := by
  obtain ⟨h1, h2⟩ := h.own
  rcases h2 with ⟨rfl, h0⟩ | ⟨g, cap, cur, rfl, _⟩
  · exact ⟨none, 0, by rw [h0]⟩
  · exact ⟨_, _, rfl⟩
theorem KS.blk {W : World} {B d : Nat} {kv : Value} {l : List X} (h : KS W B d kv l) : ∀ q, kv.ownBlock = some q → B ≤ q ∧ q < W.heap.size := by
  obtain ⟨h1, h2⟩ := h.own
  rcases h2 with ⟨rfl, h0⟩ | ⟨g, cap, cur, rfl, hB, hb, _⟩
  · intro q hq; cases hq
  · intro q hq
    obtain rfl : g = q := by simpa [Value.ownBlock] using hq
    refine ⟨hB, Nat.lt_of_not_le fun hn => ?_⟩
    have : W.heap[g]? = none := by simp; omega
    rw [this] at hb; cases hb
theorem KS.es {W : World} {B d : Nat} {kv : Value} {l : List X} (h : KS W B d kv l) (hl : l.length ≤ 1000) : ES B W.heap.size W (d + 1) kv (l.map (·.1)) := by
  have ho := h.own
  have hb := h.blk
  obtain ⟨h1, h2⟩ := h.own
  rcases h2 with ⟨rfl, h0⟩ | ⟨g, cap, cur, rfl, _⟩
  · obtain rfl := List.length_eq_zero_iff.1 h0
    exact .inl ⟨rfl, _, _, rfl⟩
  · obtain ⟨g1, g2⟩ := hb g rfl
    refine .inr ⟨g, 0, cap, by simp, by simp; unfold maxLen; omega, g1, g2, fun i hi => ?_⟩
    have hi' : i < l.length := by simpa using hi
    have hx : l[i]? = some l[i] := List.getElem?_eq_getElem hi'
    have e : (l.map (·.1)).getD i E0 = l[i].1 := by simp [List.getD, hi']
    rw [e]
    obtain ⟨hz, lo, hi2, k1, k2, k3, k4, _⟩ := h.kid l[i] (List.getElem_mem _)
    have hc : ∀ j u, j < 5 → (cells5 l[i])[j]? = some u → W.cell? ⟨g, 0 + i * 5 + j, none⟩ = some u := fun j u hj hu => by
      have := ho.cells (g := g) rfl (i * 5 + j) u (flatK_get l i _ hx j u hj hu)
      rw [Addr.add_lit, Nat.zero_add] at this
      rw [Nat.zero_add]; exact this
    exact ⟨l[i].2.1, l[i].2.2, ⟨hc 0 _ (by omega) rfl, hc 1 _ (by omega) rfl, hc 2 _ (by omega) rfl, hc 3 _ (by omega) rfl, hc 4 _ (by omega) rfl⟩, hz, k1.mono k3 k4, k2.mono k3 k4⟩

theorem infoK : ∃ i, Tryz.prog.info? 77 = some i ∧ i.zero = some (.agg #[.int .i64 0, .int .i64 0, .string ByteArray.empty, .slice none 0 0, .slice none 0 0]) ∧ i.size = 5 ∧ i.bytes = 80 := by
  obtain ⟨i, hi, h2⟩ := Option.map_eq_some_iff.1 infoE
  simp only [Prod.mk.injEq] at h2
  exact ⟨i, hi, h2.1, h2.2.1, h2.2.2⟩

section
variable {ops : Array Oper} {o : Oper} {a : Act} {K : Act → World → Prop} {Q : Exit → Act → World → Prop} {P0 : Prop}
theorem stepAppK (w : World) (hgd : o.guard = none) (s x : Operand) (ho : o.op = .call { callee := .builtin .append, args := #[s, x], argTypes := #[74, 74] })
    (B N d n : Nat) (kv : Value) (l : List X) (q : X) (hn : l.length = n) (hs : a.eval s = kv) (hK : KS w B d kv l) (hx : a.eval x = .slice (some ⟨N, 0, none⟩) 1 1) (hN : w.heap[N]? = some (.cells (cells5 q).toArray 77 (0, 0)))
    (hq : Kid w B kv.ownBlock d q) (hl : l.length ≤ 900) (hB : B ≤ w.heap.size)
    (h : ∀ g c w', KS w' B d (.slice (some ⟨g, 0, none⟩) (n + 1) c) (l ++ [q]) → w.grownBy w' kv.ownBlock → (kv.ownBlock = some g ∨ g = w.heap.size) → K (a.put o.dst (.slice (some ⟨g, 0, none⟩) (n + 1) c)) w') :
    if Region.wanted o (yielded ops a.tmps) = true then Oper.wp Tryz.prog o a w K Q else P0 := by
  subst hn
  obtain ⟨i, hi, hz, hsz, hby⟩ := infoK
  have hone : ∀ u ∈ cells5 q, u.oneCell' = true := by
    obtain ⟨_, lo, hi, k1, k2, _⟩ := hq
    obtain ⟨ka, kc, e1, _⟩ := k1.form
    have e2 : ∃ a c, q.2.2 = .slice a q.1.tiers.length c := by
      rcases k2 with ⟨h0, a, c, h⟩ | ⟨b, o, cap, h, _⟩
      · exact ⟨a, c, by rw [h, h0]; rfl⟩
      · exact ⟨_, _, h⟩
    obtain ⟨ta, tc, e2⟩ := e2
    intro u hu
    simp only [cells5, e1, e2, List.mem_cons, List.not_mem_nil, or_false] at hu
    rcases hu with rfl | rfl | rfl | rfl | rfl <;> rfl
  refine step_append_lies (P := Tryz.prog) w hgd s x 74 ho B 77 i _ 5 80 Tryz.underlying74 hi hz hsz hby rfl (by omega) kv l.length (flatK l) hs hK.own ⟨N, 0, none⟩ 1 1 (cells5 q) hx rfl (World.news_of_block hN) hone (by omega) (by unfold maxLen; omega) (by omega) hB _ rfl ?_
  intro g c w' h1 h2 h3 h4
  refine h g c w' ⟨?_, ?_⟩ h2 h3
  · rw [flatK_append]
    have e : flatK [q] = cells5 q := by simp [flatK]
    rw [e, List.length_append]
    exact h1
  · intro y hy
    have key : ∀ y, Kid w B kv.ownBlock d y → Kid w' B (some g) d y := fun y hk => by
      obtain ⟨z, lo, hi, k1, k2, k3, k4, k5⟩ := hk.kept h2 (fun q hq => .inr hq)
      obtain ⟨_, lo', hi', j1, j2, j3, j4, j5⟩ := hk
      have hs : Same lo' hi' w w' := fun b b1 b2 => h2.block b (by omega) (fun e => by rcases j5 b e.symm with h | h <;> omega)
      refine ⟨z, lo', hi', j1.kept hs, j2.kept hs, j3, Nat.le_trans j4 h2.size, fun q hq => ?_⟩
      obtain rfl : g = q := by simpa using hq
      rcases h3 with h | h
      · exact j5 g h
      · exact .inr (by omega)
    rcases List.mem_append.1 hy with h' | h'
    · exact key y (hK.kid y h')
    · obtain rfl := List.mem_singleton.1 h'
      exact key _ hq
end
end Go.Proofs.YtnchgeiinkaefaaGreatDoor.Rule
end

section
/-
  A region that draws its order, walked once for all worlds of a class that the prover names (a guard in it may be false, a call in it may lay blocks).
-/
namespace Go.Proofs.YtnchgeiinkaefaaGreatDoor.RegIn
open Go

/-- a world of the class S -/
structure In (S : World → Prop) where
  x : World
  h : S x

theorem wp_region_in {P : Program} {id : Nat} {Q : Exit → Act → World → Prop} {a : Act} {w : World} {l : List Oper} (S : World → Prop) (hm : P.follows .mixedOrders = true) (hB : Region.lexB .any l.toArray = true) (hS : S w.drew)
    (h : Nonempty (In S) → wpQuiet P l.toArray (fun w' => ∃ g : In S, w' = g.x) (fun a' => ∀ w', (∃ g : In S, w' = g.x) → Q .normal a' w') l a) : (Code.region id l.toArray true).wp P Q a w :=
  wp_region_quiet (C := fun w' => ∃ g : In S, w' = g.x) hm hB ⟨⟨_, hS⟩, rfl⟩ (by simpa using h ⟨⟨_, hS⟩⟩)

/-- a callee's contract, in a world of the class -/
theorem call_in {P : Program} {f : FuncId} {args : Array Value} {S : World → Prop} {v : Value} (g : In S) (h : Calls P f args g.x fun e w' => e = .returned v ∧ S w') : Calls P f args g.x fun e w'' => e = .returned v ∧ ∃ g' : In S, w'' = g'.x :=
  h.mono fun _ w' ⟨he, hs⟩ => ⟨he, ⟨w', hs⟩, rfl⟩
end Go.Proofs.YtnchgeiinkaefaaGreatDoor.RegIn
end

section
/-
  Texts that mark, and what may grow; no helper of the laws in it.
-/
namespace Go.Proofs.YtnchgeiinkaefaaGreatDoor.Evs
set_option linter.unusedVariables false
open Go.RowKit RegIn

/-- the digits of a number, none of nought -/
def digs : Nat → List UInt8
  | 0 => []
  | k + 1 => digs ((k + 1) / 10) ++ [UInt8.ofNat (48 + (k + 1) % 10)]
termination_by k => k
decreasing_by omega
theorem digs_pos {k : Nat} (h : 0 < k) : digs k = digs (k / 10) ++ [UInt8.ofNat (48 + k % 10)] := by
  cases k with
  | zero => omega
  | succ k => rw [digs]
theorem digs_zero : digs 0 = [] := by rw [digs]
/-- the text that marks -/
def mt (k : Nat) : ByteArray := ⟨(109 :: digs k).toArray⟩

theorem grow0 (w : World) (r : Option Nat) : w.grownBy w r := World.grownBy.refl _ _
theorem growB {a b : World} (h : Below a.heap.size a b) (r : Option Nat) : a.grownBy b r := ⟨h.os, h.tape, h.output, h.size, fun j hj _ => h.block j hj⟩
theorem growT {a b c : World} {r : Option Nat} (h : a.grownBy b r) (k : b.grownBy c r) : a.grownBy c r :=
  ⟨k.os.trans h.os, k.tape.trans h.tape, k.output.trans h.output, Nat.le_trans h.size k.size, fun j hj hne => (k.block j (Nat.lt_of_lt_of_le hj h.size) hne).trans (h.block j hj hne)⟩
theorem growS (w : World) (b o : Nat) (u : Value) : w.grownBy (w.setCell ⟨b, o, none⟩ u) (some b) := by
  refine ⟨rfl, rfl, rfl, ?_, ?_⟩
  · simp
  · intro j hj hne
    exact Below.heap_setCell w ⟨b, o, none⟩ u j (fun e => hne (by rw [e]))

end Go.Proofs.YtnchgeiinkaefaaGreatDoor.Evs
end

section
/-
  Expressions whose memory is the call's own: every list in a block of its own.
-/
namespace Go.Proofs.YtnchgeiinkaefaaGreatDoor.Rule
set_option linter.unusedVariables false
open Go.RowKit
open Tiers (T T0)

theorem frozen_of_block {W W' : World} {b j : Nat} (h : W'.heap[b]? = W.heap[b]?) : W'.frozen? ⟨b, j, none⟩ = W.frozen? ⟨b, j, none⟩ := by
  simp only [World.frozen?, h]
/-- steps in a block of their own, from lo on and below hi -/
def OT (lo hi : Nat) (W : World) (v : Value) (l : List T) : Prop :=
  lo ≤ hi ∧ ((l = [] ∧ ∃ a c, v = .slice a 0 c) ∨ ∃ b cap, v = .slice (some ⟨b, 0, none⟩) l.length cap ∧ lo ≤ b ∧ b < hi ∧ (∀ i, i < l.length → W.cell? ⟨b, i * 2, none⟩ = some (.int .i64 (l.getD i T0).1) ∧ W.cell? ⟨b, i * 2 + 1, none⟩ = some (.int .i64 (l.getD i T0).2)) ∧ ∀ j, W.frozen? ⟨b, j, none⟩ = false)
/-- things one behind the other -/
def Chain (R : Nat → Nat → X → Prop) : Nat → Nat → List X → Prop
  | s, e, [] => s ≤ e
  | s, e, x :: xs => ∃ m, s ≤ m ∧ m ≤ e ∧ R s m x ∧ Chain R m e xs
/-- a row of expressions in a block -/
def RowX (W : World) (b : Nat) (xs : List X) : Prop := (∀ i x, xs[i]? = some x → ∀ j u, (cells5 x)[j]? = some u → W.cell? ⟨b, i * 5 + j, none⟩ = some u) ∧ ∀ j, W.frozen? ⟨b, j, none⟩ = false
/-- a slice of expressions of its own, d deep at most, from lo on and below hi -/
def OS (W : World) : Nat → Nat → Nat → Value → List Ex → Prop
  | 0, lo, hi, v, l => lo ≤ hi ∧ l = [] ∧ ∃ a c, v = .slice a 0 c
  | d + 1, lo, hi, v, l => lo ≤ hi ∧ ((l = [] ∧ ∃ a c, v = .slice a 0 c) ∨ ∃ b cap xs, v = .slice (some ⟨b, 0, none⟩) l.length cap ∧ l = xs.map (·.1) ∧ l.length ≤ 1000 ∧ lo ≤ b ∧ b < hi ∧ RowX W b xs ∧
      Chain (fun s e x => (x.1.meter.size ≤ maxLen ∧ x.1.tiers.length ≤ maxLen) ∧ ∃ q, OS W d s q x.2.1 x.1.kids ∧ OT q e W x.2.2 x.1.tiers) (b + 1) hi xs)
def OX (W : World) (d s e : Nat) (x : X) : Prop := (x.1.meter.size ≤ maxLen ∧ x.1.tiers.length ≤ maxLen) ∧ ∃ q, OS W d s q x.2.1 x.1.kids ∧ OT q e W x.2.2 x.1.tiers
theorem OT.le {lo hi : Nat} {W : World} {v : Value} {l : List T} (h : OT lo hi W v l) : lo ≤ hi := h.1
theorem OS.le {W : World} : ∀ {d lo hi : Nat} {v : Value} {l : List Ex}, OS W d lo hi v l → lo ≤ hi
  | 0, _, _, _, _, h => h.1
  | d + 1, _, _, _, _, h => h.1
theorem OX.le {W : World} {d s e : Nat} {x : X} (h : OX W d s e x) : s ≤ e := by
  obtain ⟨_, q, h1, h2⟩ := h
  exact Nat.le_trans h1.le h2.le
theorem Chain.le {R : Nat → Nat → X → Prop} : ∀ {xs : List X} {s e : Nat}, Chain R s e xs → s ≤ e
  | [], _, _, h => h
  | x :: xs, _, _, ⟨m, h1, h2, _⟩ => Nat.le_trans h1 h2
theorem Chain.imp {R R' : Nat → Nat → X → Prop} {lo hi : Nat} (h : ∀ s e x, lo ≤ s → e ≤ hi → R s e x → R' s e x) : ∀ {xs : List X} {s e : Nat}, Chain R s e xs → lo ≤ s → e ≤ hi → Chain R' s e xs
  | [], _, _, k, _, _ => k
  | x :: xs, s, e, ⟨m, h1, h2, h3, h4⟩, k1, k2 => ⟨m, h1, h2, h s m x k1 (Nat.le_trans h2 k2) h3, Chain.imp h h4 (Nat.le_trans k1 h1) k2⟩
theorem Chain.append {R : Nat → Nat → X → Prop} : ∀ {xs ys : List X} {s m e : Nat}, Chain R s m xs → Chain R m e ys → (∀ s s' e x, s' ≤ s → R s e x → R s' e x) → Chain R s e (xs ++ ys)
  | [], [], s, m, e, h1, h2, _ => Nat.le_trans h1 h2
  | [], y :: ys, s, m, e, h1, ⟨p, k1, k2, k3, k4⟩, hR => ⟨p, Nat.le_trans h1 k1, k2, hR m s p y h1 k3, k4⟩
  | x :: xs, ys, s, m, e, ⟨p, k1, k2, k3, k4⟩, h2, hR => ⟨p, k1, Nat.le_trans k2 h2.le, k3, k4.append h2 hR⟩
theorem Chain.split {R : Nat → Nat → X → Prop} : ∀ {xs ys : List X} {s e : Nat}, Chain R s e (xs ++ ys) → ∃ m, s ≤ m ∧ m ≤ e ∧ Chain R s m xs ∧ Chain R m e ys
  | [], ys, s, e, h => ⟨s, Nat.le_refl _, h.le, Nat.le_refl _, h⟩
  | x :: xs, ys, s, e, ⟨p, k1, k2, k3, k4⟩ => by
    obtain ⟨m, a1, a2, a3, a4⟩ := Chain.split (xs := xs) k4
    exact ⟨m, Nat.le_trans k1 a1, a2, ⟨p, k1, a1, k3, a3⟩, a4⟩

theorem OT.kept {lo hi : Nat} {W W' : World} {v : Value} {l : List T} (h : OT lo hi W v l) (hs : Same lo hi W W') : OT lo hi W' v l := by
  obtain ⟨h0, h | ⟨b, cap, rfl, h1, h2, h3, h4⟩⟩ := h
  · exact ⟨h0, .inl h⟩
  · have hb := hs b h1 h2
    exact ⟨h0, .inr ⟨b, cap, rfl, h1, h2, fun i hi => ⟨(World.cell?_of_block (w := W) hb).trans (h3 i hi).1, (World.cell?_of_block (w := W) hb).trans (h3 i hi).2⟩, fun j => (frozen_of_block hb).trans (h4 j)⟩⟩
theorem OT.mono {lo hi lo' hi' : Nat} {W : World} {v : Value} {l : List T} (h : OT lo hi W v l) (h1 : lo' ≤ lo) (h2 : hi ≤ hi') : OT lo' hi' W v l := by
  obtain ⟨h0, h | ⟨b, cap, rfl, k1, k2, h3⟩⟩ := h
  · exact ⟨by omega, .inl h⟩
  · exact ⟨by omega, .inr ⟨b, cap, rfl, by omega, by omega, h3⟩⟩
theorem OT.tl {lo hi : Nat} {W : World} {v : Value} {l : List T} (h : OT lo hi W v l) : TL lo hi W v l := by
  obtain ⟨h0, h | ⟨b, cap, rfl, h1, h2, h3, h4⟩⟩ := h
  · exact .inl h
  · exact .inr ⟨b, 0, cap, rfl, h1, h2, fun i hi => by rw [Nat.zero_add]; exact h3 i hi⟩
theorem RowX.kept {W W' : World} {b : Nat} {xs : List X} (h : RowX W b xs) (hb : W'.heap[b]? = W.heap[b]?) : RowX W' b xs :=
  ⟨fun i x hx j u hu => (World.cell?_of_block (w := W) hb).trans (h.1 i x hx j u hu), fun j => (frozen_of_block hb).trans (h.2 j)⟩
theorem OS.kept {W W' : World} : ∀ {d lo hi : Nat} {v : Value} {l : List Ex}, OS W d lo hi v l → Same lo hi W W' → OS W' d lo hi v l
  | 0, _, _, _, _, h, _ => h
  | d + 1, lo, hi, v, l, ⟨h0, h⟩, hs => by
    refine ⟨h0, ?_⟩
    rcases h with h | ⟨b, cap, xs, h1, h2, h3, h4, h5, h6, h7⟩
    · exact .inl h
    · refine .inr ⟨b, cap, xs, h1, h2, h3, h4, h5, h6.kept (hs b h4 h5), h7.imp (lo := b + 1) (hi := hi) (fun s e x ks ke ⟨hz, q, hq1, hq2⟩ => ⟨hz, q, hq1.kept (fun c c1 c2 => hs c (by omega) (by have := hq2.le; omega)), hq2.kept (fun c c1 c2 => hs c (by have := hq1.le; omega) (by omega))⟩) (Nat.le_refl _) (Nat.le_refl _)⟩
theorem OS.mono {W : World} : ∀ {d lo hi lo' hi' : Nat} {v : Value} {l : List Ex}, OS W d lo hi v l → lo' ≤ lo → hi ≤ hi' → OS W d lo' hi' v l
  | 0, _, _, _, _, _, _, h, k1, k2 => ⟨Nat.le_trans k1 (Nat.le_trans h.1 k2), h.2⟩
  | d + 1, lo, hi, lo', hi', v, l, ⟨h0, h⟩, k1, k2 => by
    refine ⟨by omega, ?_⟩
    rcases h with h | ⟨b, cap, xs, h1, h2, h3, h4, h5, h6, h7⟩
    · exact .inl h
    · refine .inr ⟨b, cap, xs, h1, h2, h3, by omega, by omega, h6, ?_⟩
      have h8 : Chain (OX W d) (b + 1) hi xs := h7
      have := h8.append (ys := []) (e := hi') k2 (fun s s' e x hs ⟨hz, q, hq1, hq2⟩ => ⟨hz, q, hq1.mono hs (Nat.le_refl _), hq2⟩)
      rw [List.append_nil] at this
      exact this
theorem OX.kept {W W' : World} {d s e : Nat} {x : X} (h : OX W d s e x) (hs : Same s e W W') : OX W' d s e x := by
  obtain ⟨hz, q, h1, h2⟩ := h
  have := h1.le; have := h2.le
  exact ⟨hz, q, h1.kept (fun c c1 c2 => hs c c1 (by omega)), h2.kept (fun c c1 c2 => hs c (by omega) c2)⟩
theorem OX.mono {W : World} {d s e s' e' : Nat} {x : X} (h : OX W d s e x) (h1 : s' ≤ s) (h2 : e ≤ e') : OX W d s' e' x := by
  obtain ⟨hz, q, k1, k2⟩ := h
  exact ⟨hz, q, k1.mono h1 (Nat.le_refl _), k2.mono (Nat.le_refl _) h2⟩
theorem OS.up {W : World} : ∀ {d lo hi : Nat} {v : Value} {l : List Ex}, OS W d lo hi v l → OS W (d + 1) lo hi v l
  | 0, _, _, _, _, h => ⟨h.1, .inl h.2⟩
  | d + 1, lo, hi, v, l, ⟨h0, h⟩ => by
    refine ⟨h0, ?_⟩
    rcases h with h | ⟨b, cap, xs, h1, h2, h3, h4, h5, h6, h7⟩
    · exact .inl h
    · exact .inr ⟨b, cap, xs, h1, h2, h3, h4, h5, h6, h7.imp (lo := b + 1) (hi := hi) (fun s e x ks ke ⟨hz, q, hq1, hq2⟩ => ⟨hz, q, hq1.up, hq2⟩) (Nat.le_refl _) (Nat.le_refl _)⟩
theorem OS.nil {W : World} {d lo hi : Nat} (a : Option Addr) (c : Nat) (h : lo ≤ hi) : OS W d lo hi (.slice a 0 c) [] := by
  cases d with
  | zero => exact ⟨h, rfl, _, _, rfl⟩
  | succ d => exact ⟨h, .inl ⟨rfl, _, _, rfl⟩⟩
theorem OT.nil {W : World} {lo hi : Nat} (a : Option Addr) (c : Nat) (h : lo ≤ hi) : OT lo hi W (.slice a 0 c) [] := ⟨h, .inl ⟨rfl, _, _, rfl⟩⟩
theorem Chain.mem {R : Nat → Nat → X → Prop} : ∀ {xs : List X} {s e : Nat}, Chain R s e xs → ∀ x ∈ xs, ∃ p q, s ≤ p ∧ q ≤ e ∧ R p q x
  | x :: xs, s, e, ⟨m, h1, h2, h3, h4⟩, y, hy => by
    rcases List.mem_cons.1 hy with rfl | h
    · exact ⟨s, m, Nat.le_refl _, h2, h3⟩
    · obtain ⟨p, q, a, b, c⟩ := h4.mem y h
      exact ⟨p, q, by omega, b, c⟩
theorem OS.es {W : World} : ∀ {d lo hi : Nat} {v : Value} {l : List Ex}, OS W d lo hi v l → ES lo hi W d v l
  | 0, _, _, _, _, h => h.2
  | d + 1, lo, hi, v, l, ⟨h0, h⟩ => by
    rcases h with h | ⟨b, cap, xs, rfl, rfl, h3, h4, h5, h6, h7⟩
    · exact .inl h
    · refine .inr ⟨b, 0, cap, rfl, by unfold maxLen; omega, h4, h5, fun i hi' => ?_⟩
      have hi2 : i < xs.length := by simpa using hi'
      have hx : xs[i]? = some xs[i] := List.getElem?_eq_getElem hi2
      have e : (xs.map (·.1)).getD i E0 = xs[i].1 := by simp [List.getD, hi2]
      rw [e]
      obtain ⟨p, q, a1, a2, hz, r, hq1, hq2⟩ := Chain.mem h7 xs[i] (List.getElem_mem _)
      have hc : ∀ j u, (cells5 xs[i])[j]? = some u → W.cell? ⟨b, 0 + i * 5 + j, none⟩ = some u := fun j u hu => by
        rw [Nat.zero_add]; exact h6.1 i _ hx j u hu
      have := hq1.le; have := hq2.le
      exact ⟨xs[i].2.1, xs[i].2.2, ⟨hc 0 _ rfl, hc 1 _ rfl, hc 2 _ rfl, hc 3 _ rfl, hc 4 _ rfl⟩, hz, (OS.es hq1).mono (by omega) (by omega), hq2.tl.mono (by omega) (by omega)⟩
theorem OX.ev {W : World} {d s e : Nat} {x : X} (h : OX W d s e x) : EV s e W d (.agg #[.int .i64 x.1.kind, .int .i64 x.1.num, .string x.1.meter, x.2.1, x.2.2]) x.1 := by
  obtain ⟨hz, q, h1, h2⟩ := h
  have := h1.le; have := h2.le
  exact ⟨x.2.1, x.2.2, rfl, hz, h1.es.mono (Nat.le_refl _) (by omega), h2.tl.mono (by omega) (Nat.le_refl _)⟩

/-! ### marks -/
/-- the marks of n steps -/
def marksT (k n : Nat) : List T := (List.range n).map fun i => (((k + 2 * i : Nat) : Int), ((k + 2 * i + 1 : Nat) : Int))
mutual
/-- an expression that was marked, from k on; k' is the next mark -/
def MkE : Nat → Ex → Nat → Prop
  | k, .mk kd n m ks ts, k' => kd = (k : Int) ∧ n = ((k + 1 : Nat) : Int) ∧ m = Evs.mt (k + 2) ∧ ∃ k1, MkL (k + 3) ks k1 ∧ ts = marksT k1 ts.length ∧ k' = k1 + 2 * ts.length
def MkL : Nat → List Ex → Nat → Prop
  | k, [], k' => k' = k
  | k, e :: es, k' => ∃ k1, MkE k e k1 ∧ MkL k1 es k'
end
theorem MkL.snoc : ∀ {l : List Ex} {e : Ex} {k k1 k2 : Nat}, MkL k l k1 → MkE k1 e k2 → MkL k (l ++ [e]) k2
  | [], e, k, k1, k2, h, h' => by
    rw [MkL] at h
    subst h
    rw [List.nil_append, MkL]
    exact ⟨k2, h', by rw [MkL]⟩
  | a :: l, e, k, k1, k2, h, h' => by
    rw [MkL] at h
    obtain ⟨k3, h1, h2⟩ := h
    rw [List.cons_append, MkL]
    exact ⟨k3, h1, h2.snoc h'⟩
mutual
theorem MkE.le : ∀ {e : Ex} {k k' : Nat}, MkE k e k' → k + 3 ≤ k'
  | .mk kd n m ks ts, k, k', h => by
    rw [MkE] at h
    obtain ⟨_, _, _, k1, h1, _, rfl⟩ := h
    have := MkL.le h1
    omega
theorem MkL.le : ∀ {l : List Ex} {k k' : Nat}, MkL k l k' → k ≤ k'
  | [], k, k', h => by rw [MkL] at h; omega
  | e :: es, k, k', h => by
    rw [MkL] at h
    obtain ⟨k1, h1, h2⟩ := h
    have := MkE.le h1
    have := MkL.le h2
    omega
end
theorem MkL.split : ∀ {a b : List Ex} {k k' : Nat}, MkL k (a ++ b) k' → ∃ k1, MkL k a k1 ∧ MkL k1 b k'
  | [], b, k, k', h => ⟨k, by rw [MkL], h⟩
  | e :: a, b, k, k', h => by
    rw [List.cons_append, MkL] at h
    obtain ⟨k1, h1, h2⟩ := h
    obtain ⟨k2, h3, h4⟩ := MkL.split h2
    exact ⟨k2, by rw [MkL]; exact ⟨k1, h1, h3⟩, h4⟩
end Go.Proofs.YtnchgeiinkaefaaGreatDoor.Rule
end

section
/-
  Steps that are right (impl.stepsRight).
-/
namespace Go.Proofs.YtnchgeiinkaefaaGreatDoor.Tiers
set_option linter.unusedVariables false
open Go.RowKit

theorem numI (x : Int) (w : World) : Calls Tryz.prog 283 #[.int .i64 x] w fun e w' => e = .returned (.bool (numB x)) ∧ w' = w := by
  by_cases h1 : 0 ≤ x
  · by_cases h2 : x ≤ 1000000000
    · have e : numB x = true := decide_eq_true ⟨h1, h2⟩
      rw [e]; clear e
      go_enter Tryz.func283, Tryz.ntmps283
      go_wp2
      go_ret
      exact ⟨rfl, rfl⟩
    · have e : numB x = false := decide_eq_false (by omega)
      rw [e]; clear e
      go_enter Tryz.func283, Tryz.ntmps283
      go_wp2
      go_ret
      exact ⟨rfl, rfl⟩
  · have e : numB x = false := decide_eq_false (by omega)
    rw [e]; clear e
    go_enter Tryz.func283, Tryz.ntmps283
    go_wp2
    go_ret
    exact ⟨rfl, rfl⟩

set_option maxHeartbeats 2000000 in
/-- impl.stepsRight -/
theorem rightI (v : Value) (l : List T) (w : World) (h : TR w v l) (hl : l.length ≤ 1048576) :
    Calls Tryz.prog 281 #[v] w fun e w' => e = .returned (.bool (rightB l)) ∧ Below w.heap.size w w' := by
  by_cases hsz : 1 ≤ l.length ∧ l.length ≤ 6
  · rcases h with ⟨rfl, a, c, rfl⟩ | ⟨b, o, cap, rfl, hc⟩
    · simp at hsz
    obtain ⟨z1, z2⟩ := hsz
    have y1 : (1 : Int) ≤ (l.length : Int) := by omega
    have y2 : (l.length : Int) ≤ 6 := by omega
    generalize hr : rightB l = r
    have HR := hide hr
    have HC := hide hc
    clear hr hc
    go_enter Tryz.func281, Tryz.ntmps281
    go_wp2
    go_loopw [16] (fun i wr => ∃ k : Nat, k ≤ l.length ∧ i = .int .i64 k ∧ Hid (∀ j, j < k → okT l.length j (l.getD j T0) = true) ∧ Hid (Below w.heap.size w wr)) (fun i _ => l.length - (intOf i).toNat)
    case atStart => exact ⟨0, Nat.zero_le _, rfl, hide (fun j hj => by omega), hide (Below.refl _ _)⟩
    case round =>
      obtain ⟨k, hk, rfl, hd, hb⟩ := hrel
      by_cases hlt : k < l.length
      · obtain ⟨c0, c1⟩ := ((unhide HC).kept (unhide hb)).2 k hlt
        have i1 : (0 : Int) ≤ (k : Int) := by omega
        have i2 : (k : Int) < (l.length : Int) := by omega
        have HB : Hid (∀ o, Below w.heap.size w (wr.alloc o)) := hide (fun o => (unhide hb).alloc (unhide hb).size o)
        cases ho : okT l.length k (l.getD k T0)
        · have hr : r = false := (unhide HR).symm.trans (rightB_bad hlt ho)
          subst hr
          have hno := mt okT_mk (by rw [ho]; simp)
          clear ho hd
          generalize (l.getD k T0).1 = x at *
          generalize (l.getD k T0).2 = y at *
          by_cases a1 : k + 1 = l.length
          all_goals by_cases a2 : x = 0
          all_goals by_cases x1 : 0 ≤ x ∧ x ≤ 1000000000
          all_goals by_cases q1 : 0 ≤ y ∧ y ≤ 1000000000
          all_goals first | (exfalso; omega) | skip
          all_goals clear hno
          all_goals first | (have b1 : ((k : Int) == (l.length : Int) - 1) = true := beq_iff_eq.2 (by omega)) | (have b1 : ((k : Int) == (l.length : Int) - 1) = false := beq_eq_false_iff_ne.2 (by omega))
          all_goals first | (have b2 : (x == 0) = true := beq_iff_eq.2 (by omega)) | (have b2 : (x == 0) = false := beq_eq_false_iff_ne.2 (by omega))
          all_goals first | (have b3 : numB x = true := decide_eq_true x1) | (have b3 : numB x = false := decide_eq_false x1)
          all_goals first | (have b4 : numB y = true := decide_eq_true q1) | (have b4 : numB y = false := decide_eq_false q1)
          all_goals clear a1 a2 x1 q1
          all_goals go_wp2_with (go_at_call 283; refine (numI _ _).mono ?_; rintro e w1 ⟨rfl, rfl⟩)
          all_goals go_ret
          all_goals exact ⟨rfl, unhide HB _⟩
        · obtain ⟨o1, o2, o3, o4, o5⟩ := okT_of ho
          have hd' : Hid (∀ j, j < k + 1 → okT l.length j (l.getD j T0) = true) := hide (fun j hj => by
            by_cases e : j < k
            · exact unhide hd j e
            · obtain rfl : j = k := by omega
              exact ho)
          clear ho hd
          generalize (l.getD k T0).1 = x at *
          generalize (l.getD k T0).2 = y at *
          have b3 : numB x = true := decide_eq_true ⟨o2, o3⟩
          have b4 : numB y = true := decide_eq_true ⟨o4, o5⟩
          by_cases a1 : k + 1 = l.length
          · have b1 : ((k : Int) == (l.length : Int) - 1) = true := beq_iff_eq.2 (by omega)
            have b2 : (x == 0) = true := beq_iff_eq.2 (o1.1 a1)
            clear a1 o1
            go_wp2_with (go_at_call 283; refine (numI _ _).mono ?_; rintro e w1 ⟨rfl, rfl⟩)
            exact ⟨⟨k + 1, by omega, by go_num, hd', hide (unhide HB _)⟩, by simp [intOf]; omega⟩
          · have b1 : ((k : Int) == (l.length : Int) - 1) = false := beq_eq_false_iff_ne.2 (by omega)
            have b2 : (x == 0) = false := beq_eq_false_iff_ne.2 (fun e => a1 (o1.2 e))
            clear a1 o1
            go_wp2_with (go_at_call 283; refine (numI _ _).mono ?_; rintro e w1 ⟨rfl, rfl⟩)
            exact ⟨⟨k + 1, by omega, by go_num, hd', hide (unhide HB _)⟩, by simp [intOf]; omega⟩
      · have hr : r = true := (unhide HR).symm.trans (rightB_yes ⟨z1, z2⟩ (fun i hi => unhide hd i (by omega)))
        subst hr
        go_wp2
        go_ret
        exact ⟨rfl, unhide hb⟩
  · rw [rightB_size hsz]
    have e1 : ∃ a c, v = .slice a l.length c := by
      rcases h with ⟨rfl, a, c, rfl⟩ | ⟨b, o, cap, rfl, _⟩
      · exact ⟨_, _, rfl⟩
      · exact ⟨_, _, rfl⟩
    obtain ⟨a, c, rfl⟩ := e1
    clear h
    by_cases z1 : (l.length : Int) < 1
    · go_enter Tryz.func281, Tryz.ntmps281
      go_wp2
      go_ret
      exact ⟨rfl, Below.refl _ _⟩
    · have z2 : (6 : Int) < l.length := by omega
      go_enter Tryz.func281, Tryz.ntmps281
      go_wp2
      go_ret
      exact ⟨rfl, Below.refl _ _⟩
end Go.Proofs.YtnchgeiinkaefaaGreatDoor.Tiers
end

section
/-
  The methods 'fits' of the kinds.
-/
namespace Go.Proofs.YtnchgeiinkaefaaGreatDoor.Rule
set_option linter.unusedVariables false
open Go.RowKit Tiers
open Kinds hiding hide unhide below_trans ext_toList

theorem zero_yes {n : Nat} (h : n = 0) : ((n : Int) == 0) = true := by simp [h]
theorem zero_no {n : Nat} (h : ¬ n = 0) : ((n : Int) == 0) = false := by simp [h]
theorem below2 (w : World) (o p : Obj) : Below w.heap.size w ((w.alloc o).alloc p) := ((Below.refl _ _).alloc (Nat.le_refl _) _).alloc (by simp) _

set_option maxHeartbeats 1000000 in
theorem fitsLook (s : ByteArray) (q k n : Int) (m : ByteArray) (ka ta : Option Addr) (nk kc tn tc : Nat) (w : World) (h2 : tn ≤ maxLen) :
    Calls Tryz.prog 261 #[.agg #[.string s, .int .i64 q], .agg #[.int .i64 k, .int .i64 n, .string m, .slice ka nk kc, .slice ta tn tc]] w fun e w' => e = .returned (.bool (decide (n = 0) && decide (m.size = 0) && decide (tn = 0))) ∧ Below w.heap.size w w' := by
  unfold maxLen at h2
  by_cases n0 : n = 0
  · have b1 : (n == 0) = true := by simp [n0]
    by_cases m0 : m.size = 0
    · have b2 := isEmpty_yes m0
      by_cases t0 : tn = 0
      · have b3 := zero_yes t0
        have e : (decide (n = 0) && decide (m.size = 0) && decide (tn = 0)) = true := by simp [n0, m0, t0]
        rw [e]
        clear e
        go_enter Tryz.func261, Tryz.ntmps261
        go_wp2
        go_ret
        exact ⟨rfl, below2 _ _ _⟩
      · have b3 := zero_no t0
        have e : (decide (n = 0) && decide (m.size = 0) && decide (tn = 0)) = false := by simp [n0, m0, t0]
        rw [e]
        clear e
        go_enter Tryz.func261, Tryz.ntmps261
        go_wp2
        go_ret
        exact ⟨rfl, below2 _ _ _⟩
    · have b2 := isEmpty_no m0
      have e : (decide (n = 0) && decide (m.size = 0) && decide (tn = 0)) = false := by simp [n0, m0]
      rw [e]
      clear e
      go_enter Tryz.func261, Tryz.ntmps261
      go_wp2
      go_ret
      exact ⟨rfl, below2 _ _ _⟩
  · have b1 : (n == 0) = false := by simp [n0]
    have e : (decide (n = 0) && decide (m.size = 0) && decide (tn = 0)) = false := by simp [n0]
    rw [e]
    clear e
    go_enter Tryz.func261, Tryz.ntmps261
    go_wp2
    go_ret
    exact ⟨rfl, below2 _ _ _⟩

set_option maxHeartbeats 1000000 in
theorem fitsNum (s : ByteArray) (q k n : Int) (m : ByteArray) (ka ta : Option Addr) (nk kc tn tc : Nat) (w : World) (h2 : tn ≤ maxLen) :
    Calls Tryz.prog 265 #[.agg #[.string s, .int .i64 q], .agg #[.int .i64 k, .int .i64 n, .string m, .slice ka nk kc, .slice ta tn tc]] w fun e w' => e = .returned (.bool (decide (-1000000000 ≤ n ∧ n ≤ 1000000000) && decide (m.size = 0) && decide (tn = 0))) ∧ Below w.heap.size w w' := by
  unfold maxLen at h2
  by_cases r1 : -1000000000 ≤ n
  · have r1' : decide (-1000000000 ≤ n) = true := decide_eq_true r1
    by_cases r2 : n ≤ 1000000000
    · have r2' : decide (n ≤ 1000000000) = true := decide_eq_true r2
      by_cases m0 : m.size = 0
      · have b2 := isEmpty_yes m0
        by_cases t0 : tn = 0
        · have b3 := zero_yes t0
          have e : (decide (-1000000000 ≤ n ∧ n ≤ 1000000000) && decide (m.size = 0) && decide (tn = 0)) = true := by simp [r1, r2, m0, t0]
          rw [e]
          clear e
          go_enter Tryz.func265, Tryz.ntmps265
          go_wp2
          go_ret
          exact ⟨rfl, below2 _ _ _⟩
        · have b3 := zero_no t0
          have e : (decide (-1000000000 ≤ n ∧ n ≤ 1000000000) && decide (m.size = 0) && decide (tn = 0)) = false := by simp [r1, r2, m0, t0]
          rw [e]
          clear e
          go_enter Tryz.func265, Tryz.ntmps265
          go_wp2
          go_ret
          exact ⟨rfl, below2 _ _ _⟩
      · have b2 := isEmpty_no m0
        have e : (decide (-1000000000 ≤ n ∧ n ≤ 1000000000) && decide (m.size = 0) && decide (tn = 0)) = false := by simp [r1, r2, m0]
        rw [e]
        clear e
        go_enter Tryz.func265, Tryz.ntmps265
        go_wp2
        go_ret
        exact ⟨rfl, below2 _ _ _⟩
    · have r2' : decide (n ≤ 1000000000) = false := decide_eq_false r2
      have e : (decide (-1000000000 ≤ n ∧ n ≤ 1000000000) && decide (m.size = 0) && decide (tn = 0)) = false := by simp [r1, r2]
      rw [e]
      clear e
      go_enter Tryz.func265, Tryz.ntmps265
      go_wp2
      go_ret
      exact ⟨rfl, below2 _ _ _⟩
  · have r1' : decide (-1000000000 ≤ n) = false := decide_eq_false r1
    have e : (decide (-1000000000 ≤ n ∧ n ≤ 1000000000) && decide (m.size = 0) && decide (tn = 0)) = false := by simp [r1]
    rw [e]
    clear e
    go_enter Tryz.func265, Tryz.ntmps265
    go_wp2
    go_ret
    exact ⟨rfl, below2 _ _ _⟩

set_option maxHeartbeats 1000000 in
theorem fitsPart (s : ByteArray) (q k n : Int) (m : ByteArray) (ka ta : Option Addr) (nk kc tn tc : Nat) (w : World) (h2 : tn ≤ maxLen) :
    Calls Tryz.prog 273 #[.agg #[.string s, .int .i64 q], .agg #[.int .i64 k, .int .i64 n, .string m, .slice ka nk kc, .slice ta tn tc]] w fun e w' => e = .returned (.bool (decide (0 ≤ n ∧ n ≤ 1000000) && decide (m.size = 0) && decide (tn = 0))) ∧ Below w.heap.size w w' := by
  unfold maxLen at h2
  by_cases r1 : 0 ≤ n
  · have r1' : decide (0 ≤ n) = true := decide_eq_true r1
    by_cases r2 : n ≤ 1000000
    · have r2' : decide (n ≤ 1000000) = true := decide_eq_true r2
      by_cases m0 : m.size = 0
      · have b2 := isEmpty_yes m0
        by_cases t0 : tn = 0
        · have b3 := zero_yes t0
          have e : (decide (0 ≤ n ∧ n ≤ 1000000) && decide (m.size = 0) && decide (tn = 0)) = true := by simp [r1, r2, m0, t0]
          rw [e]
          clear e
          go_enter Tryz.func273, Tryz.ntmps273
          go_wp2
          go_ret
          exact ⟨rfl, below2 _ _ _⟩
        · have b3 := zero_no t0
          have e : (decide (0 ≤ n ∧ n ≤ 1000000) && decide (m.size = 0) && decide (tn = 0)) = false := by simp [r1, r2, m0, t0]
          rw [e]
          clear e
          go_enter Tryz.func273, Tryz.ntmps273
          go_wp2
          go_ret
          exact ⟨rfl, below2 _ _ _⟩
      · have b2 := isEmpty_no m0
        have e : (decide (0 ≤ n ∧ n ≤ 1000000) && decide (m.size = 0) && decide (tn = 0)) = false := by simp [r1, r2, m0]
        rw [e]
        clear e
        go_enter Tryz.func273, Tryz.ntmps273
        go_wp2
        go_ret
        exact ⟨rfl, below2 _ _ _⟩
    · have r2' : decide (n ≤ 1000000) = false := decide_eq_false r2
      have e : (decide (0 ≤ n ∧ n ≤ 1000000) && decide (m.size = 0) && decide (tn = 0)) = false := by simp [r1, r2]
      rw [e]
      clear e
      go_enter Tryz.func273, Tryz.ntmps273
      go_wp2
      go_ret
      exact ⟨rfl, below2 _ _ _⟩
  · have r1' : decide (0 ≤ n) = false := decide_eq_false r1
    have e : (decide (0 ≤ n ∧ n ≤ 1000000) && decide (m.size = 0) && decide (tn = 0)) = false := by simp [r1]
    rw [e]
    clear e
    go_enter Tryz.func273, Tryz.ntmps273
    go_wp2
    go_ret
    exact ⟨rfl, below2 _ _ _⟩

set_option maxHeartbeats 1000000 in
theorem fitsMeter (s : ByteArray) (q k n : Int) (m : ByteArray) (ka ta : Option Addr) (nk kc tc : Nat) (ts : List T) (w : World) (z1 : m.size ≤ maxLen) (z2 : ts.length ≤ maxLen) :
    Calls Tryz.prog 268 #[.agg #[.string s, .int .i64 q], .agg #[.int .i64 k, .int .i64 n, .string m, .slice ka nk kc, .slice ta ts.length tc]] w fun e w' => e = .returned (.bool (nameB m && decide (n = 0) && decide (ts.length = 0))) ∧ Below w.heap.size w w' := by
  unfold maxLen at z2
  generalize hr : (nameB m && decide (n = 0) && decide (ts.length = 0)) = r
  have HR := hide hr
  clear hr
  go_enter Tryz.func268, Tryz.ntmps268
  go_wp2_with (fail)
  refine (nameI m _ z1).mono ?_
  rintro e w1 ⟨rfl, hb1⟩
  have hc := (hb1.cell (p := ⟨w.heap.size + 1, 1, none⟩) (by simp))
  have hd := (hb1.cell (p := ⟨w.heap.size + 1, 2, none⟩) (by simp))
  have he := (hb1.cell (p := ⟨w.heap.size + 1, 4, none⟩) (by simp))
  have n5 := new5 (w.alloc (.cells #[.string s, .int .i64 q] 222)) (.int .i64 k) (.int .i64 n) (.string m) (.slice ka nk kc) (.slice ta ts.length tc) 77
  simp only [World.size_alloc] at n5
  rw [n5.2.1] at hc
  rw [n5.2.2.1] at hd
  rw [n5.2.2.2.2] at he
  have HB := hide ((below2 _ _ _).trans (hb1.mono (by simp; omega)))
  clear hb1 n5
  cases hkey : nameB m
  · simp only [hkey, Bool.false_and] at HR
    have := unhide HR; subst this
    go_wp2_with (fail)
    go_ret
    exact ⟨rfl, unhide HB⟩
  · simp only [hkey, Bool.true_and] at HR
    by_cases n0 : n = 0
    · have b1 : (n == 0) = true := by simp [n0]
      by_cases t0 : ts.length = 0
      · have b3 := zero_yes t0
        have hr : r = true := (unhide HR).symm.trans (by simp [n0, t0])
        subst hr
        go_wp2_with (fail)
        go_ret
        exact ⟨rfl, unhide HB⟩
      · have b3 := zero_no t0
        have hr : r = false := (unhide HR).symm.trans (by simp [t0])
        subst hr
        go_wp2_with (fail)
        go_ret
        exact ⟨rfl, unhide HB⟩
    · have b1 : (n == 0) = false := by simp [n0]
      have hr : r = false := (unhide HR).symm.trans (by simp [n0])
      subst hr
      go_wp2_with (fail)
      go_ret
      exact ⟨rfl, unhide HB⟩

set_option maxHeartbeats 1000000 in
theorem fitsSteps (s : ByteArray) (q k n : Int) (m : ByteArray) (ka ta : Option Addr) (nk kc tc : Nat) (ts : List T) (w : World) (z2 : ts.length ≤ 1048576) (hT : TR w (.slice ta ts.length tc) ts) :
    Calls Tryz.prog 278 #[.agg #[.string s, .int .i64 q], .agg #[.int .i64 k, .int .i64 n, .string m, .slice ka nk kc, .slice ta ts.length tc]] w fun e w' => e = .returned (.bool (rightB ts && decide (n = 0) && decide (m.size = 0))) ∧ Below w.heap.size w w' := by
  have HT := hide hT
  clear hT
  generalize hr : (rightB ts && decide (n = 0) && decide (m.size = 0)) = r
  have HR := hide hr
  clear hr
  go_enter Tryz.func278, Tryz.ntmps278
  go_wp2_with (fail)
  refine (rightI _ ts _ ((unhide HT).kept (below2 _ _ _)) z2).mono ?_
  rintro e w1 ⟨rfl, hb1⟩
  have hc := (hb1.cell (p := ⟨w.heap.size + 1, 1, none⟩) (by simp))
  have hd := (hb1.cell (p := ⟨w.heap.size + 1, 2, none⟩) (by simp))
  have he := (hb1.cell (p := ⟨w.heap.size + 1, 4, none⟩) (by simp))
  have n5 := new5 (w.alloc (.cells #[.string s, .int .i64 q] 227)) (.int .i64 k) (.int .i64 n) (.string m) (.slice ka nk kc) (.slice ta ts.length tc) 77
  simp only [World.size_alloc] at n5
  rw [n5.2.1] at hc
  rw [n5.2.2.1] at hd
  rw [n5.2.2.2.2] at he
  have HB := hide ((below2 _ _ _).trans (hb1.mono (by simp; omega)))
  clear hb1 n5
  cases hkey : rightB ts
  · simp only [hkey, Bool.false_and] at HR
    have := unhide HR; subst this
    go_wp2_with (fail)
    go_ret
    exact ⟨rfl, unhide HB⟩
  · simp only [hkey, Bool.true_and] at HR
    by_cases n0 : n = 0
    · have b1 : (n == 0) = true := by simp [n0]
      by_cases m0 : m.size = 0
      · have b2 := isEmpty_yes m0
        have hr : r = true := (unhide HR).symm.trans (by simp [n0, m0])
        subst hr
        go_wp2_with (fail)
        go_ret
        exact ⟨rfl, unhide HB⟩
      · have b2 := isEmpty_no m0
        have hr : r = false := (unhide HR).symm.trans (by simp [m0])
        subst hr
        go_wp2_with (fail)
        go_ret
        exact ⟨rfl, unhide HB⟩
    · have b1 : (n == 0) = false := by simp [n0]
      have hr : r = false := (unhide HR).symm.trans (by simp [n0])
      subst hr
      go_wp2_with (fail)
      go_ret
      exact ⟨rfl, unhide HB⟩
end Go.Proofs.YtnchgeiinkaefaaGreatDoor.Rule
end

section
/-
  impl.okWithin, impl.RuleOk.
-/
namespace Go.Proofs.YtnchgeiinkaefaaGreatDoor.Rule
set_option linter.unusedVariables false
open Go.RowKit Tiers
open Kinds hiding hide unhide below_trans ext_toList

/-- which function 'fits' is -/
def fitsF (k : Int) : Nat := if k = 1 then 265 else if k = 2 then 268 else if k = 6 then 273 else if k = 10 then 278 else 261
theorem mFitsPair (s : ByteArray) (n : Int) (f : Value) (w : World) : (method 453 224 (.agg #[.string s, .int .i64 n, f]) "loop.example/scot/impl.fits").run Tryz.prog w = .ok (261, .agg #[.string s, .int .i64 n]) w := by kernel_rfl
theorem mFitsPart (s : ByteArray) (n : Int) (w : World) : (method 453 225 (.agg #[.string s, .int .i64 n]) "loop.example/scot/impl.fits").run Tryz.prog w = .ok (273, .agg #[.string s, .int .i64 n]) w := by kernel_rfl
theorem mFitsIf (s : ByteArray) (n : Int) (w : World) : (method 453 226 (.agg #[.string s, .int .i64 n]) "loop.example/scot/impl.fits").run Tryz.prog w = .ok (261, .agg #[.string s, .int .i64 n]) w := by kernel_rfl
theorem mFitsSteps (s : ByteArray) (n : Int) (w : World) : (method 453 227 (.agg #[.string s, .int .i64 n]) "loop.example/scot/impl.fits").run Tryz.prog w = .ok (278, .agg #[.string s, .int .i64 n]) w := by kernel_rfl
theorem mFitsNum (s : ByteArray) (n : Int) (w : World) : (method 453 221 (.agg #[.string s, .int .i64 n]) "loop.example/scot/impl.fits").run Tryz.prog w = .ok (265, .agg #[.string s, .int .i64 n]) w := by kernel_rfl
theorem mFitsMeter (s : ByteArray) (n : Int) (w : World) : (method 453 222 (.agg #[.string s, .int .i64 n]) "loop.example/scot/impl.fits").run Tryz.prog w = .ok (268, .agg #[.string s, .int .i64 n]) w := by kernel_rfl
theorem mFits {k : Int} (h : 1 ≤ k ∧ k ≤ 10) (w : World) : (method 453 (typeK k) (recK k) "loop.example/scot/impl.fits").run Tryz.prog w = .ok (fitsF k, lookV k) w := by
  rcases cases10 h with rfl | rfl | rfl | rfl | rfl | rfl | rfl | rfl | rfl | rfl
  · exact mFitsNum _ _ w
  · exact mFitsMeter _ _ w
  · exact mFitsPair _ _ _ w
  · exact mFitsPair _ _ _ w
  · exact mFitsPair _ _ _ w
  · exact mFitsPart _ _ w
  · exact mFitsPair _ _ _ w
  · exact mFitsPair _ _ _ w
  · exact mFitsIf _ _ w
  · exact mFitsSteps _ _ w
theorem eFits {k : Int} (h : 1 ≤ k ∧ k ≤ 10) (args : Array Value) (w : World) : (callFunc (fitsF k) args).run Tryz.prog w = .ok (.enter (fitsF k) args) w := by
  rcases cases10 h with rfl | rfl | rfl | rfl | rfl | rfl | rfl | rfl | rfl | rfl
  all_goals kernel_rfl
/-- the methods 'fits' -/
theorem fitsI {k : Int} (h : 1 ≤ k ∧ k ≤ 10) (n : Int) (m : ByteArray) (ka ta : Option Addr) (nk kc tc : Nat) (ts : List T) (w : World) (z1 : m.size ≤ maxLen) (z2 : ts.length ≤ 1048576) (hT : TR w (.slice ta ts.length tc) ts) :
    Calls Tryz.prog (fitsF k) #[lookV k, .agg #[.int .i64 k, .int .i64 n, .string m, .slice ka nk kc, .slice ta ts.length tc]] w fun e w' => e = .returned (.bool (fitsB k n m ts)) ∧ Below w.heap.size w w' := by
  have z3 : ts.length ≤ maxLen := by unfold maxLen; omega
  rcases cases10 h with rfl | rfl | rfl | rfl | rfl | rfl | rfl | rfl | rfl | rfl
  · exact fitsNum _ _ _ n m ka ta nk kc _ tc w z3
  · exact fitsMeter _ _ _ n m ka ta nk kc tc ts w z1 z3
  · exact fitsLook _ _ _ n m ka ta nk kc _ tc w z3
  · exact fitsLook _ _ _ n m ka ta nk kc _ tc w z3
  · exact fitsLook _ _ _ n m ka ta nk kc _ tc w z3
  · exact fitsPart _ _ _ n m ka ta nk kc _ tc w z3
  · exact fitsLook _ _ _ n m ka ta nk kc _ tc w z3
  · exact fitsLook _ _ _ n m ka ta nk kc _ tc w z3
  · exact fitsLook _ _ _ n m ka ta nk kc _ tc w z3
  · exact fitsSteps _ _ _ n m ka ta nk kc tc ts w z2 hT

/-- what okWithin tells: r, and what is left of m -/
def WOk (e : Ex) (depth m : Int) (r : Bool) (m' : Int) : Prop := (r = true → m' = m - cnt e ∧ 0 ≤ m' ∧ allB e = true ∧ (dep e : Int) ≤ depth) ∧ (r = false → ¬ (allB e = true ∧ (dep e : Int) ≤ depth ∧ (cnt e : Int) ≤ m))
def OkW (d : Nat) : Prop := ∀ (lo hi pb : Nat) (v : Value) (e : Ex) (depth m : Int) (w : World), EV lo hi w d v e → hi ≤ pb → pb < w.heap.size → wt e ≤ 1048576 → 0 ≤ depth → depth ≤ 8 → 0 ≤ m → m ≤ 40 → w.cell? ⟨pb, 0, none⟩ = some (.int .i64 m) → w.frozen? ⟨pb, 0, none⟩ = false →
  Calls Tryz.prog 125 #[v, .int .i64 depth, .pointer (some ⟨pb, 0, none⟩)] w fun x w' => ∃ (r : Bool) (m' : Int), x = .returned (.bool r) ∧ WOk e depth m r m' ∧ w'.cell? ⟨pb, 0, none⟩ = some (.int .i64 m') ∧ w'.frozen? ⟨pb, 0, none⟩ = false ∧ w.grownBy w' (some pb)

theorem cnt_pos (e : Ex) : 1 ≤ cnt e := by rw [cnt_eq]; omega
theorem dep_pos (e : Ex) : 1 ≤ dep e := by rw [dep_eq]; omega
theorem nodeE_in {e : Ex} (h : nodeE e = true) : 1 ≤ e.kind ∧ e.kind ≤ 10 ∧ (e.kids.length : Int) = kidsK e.kind ∧ fitsB e.kind e.num e.meter e.tiers = true := by
  unfold nodeE nodeB at h
  simp only [Bool.and_eq_true, decide_eq_true_eq] at h
  exact ⟨h.1.1, h.1.2.1, h.1.2.2, h.2⟩
theorem allB_node {e : Ex} (h : allB e = true) : nodeE e = true := by
  rw [allB_eq] at h; simp only [Bool.and_eq_true] at h; exact h.1
theorem after_set (w : World) (o : Obj) (pb : Nat) (u v : Value) (hpb : pb < w.heap.size) (hc : w.cell? ⟨pb, 0, none⟩ = some u) (hf : w.frozen? ⟨pb, 0, none⟩ = false) :
    ((w.setCell ⟨pb, 0, none⟩ v).alloc o).cell? ⟨pb, 0, none⟩ = some v ∧ ((w.setCell ⟨pb, 0, none⟩ v).alloc o).frozen? ⟨pb, 0, none⟩ = false ∧ w.grownBy ((w.setCell ⟨pb, 0, none⟩ v).alloc o) (some pb) := by
  refine ⟨?_, ?_, ⟨rfl, rfl, rfl, by simp, fun j hj hne => ?_⟩⟩
  · rw [(below_alloc _ o).cell (p := ⟨pb, 0, none⟩) (by simpa using hpb)]
    exact World.cell?_setCell_same _ _ _ hc
  · rw [(below_alloc _ o).frozen (p := ⟨pb, 0, none⟩) (by simpa using hpb), World.frozen?_setCell]
    exact hf
  · rw [Below.heap_alloc _ _ _ (by simpa using hj)]
    exact Below.heap_setCell _ ⟨pb, 0, none⟩ v j (by intro e; exact hne (by rw [e]))

set_option maxHeartbeats 1600000 in
theorem okW_head (pb : Nat) (kv tv : Value) (e : Ex) (depth m : Int) (w : World) (hpb : pb < w.heap.size) (d1 : 0 ≤ depth) (d2 : depth ≤ 8) (m1 : 0 ≤ m) (m2 : m ≤ 40) (hc : w.cell? ⟨pb, 0, none⟩ = some (.int .i64 m)) (hf : w.frozen? ⟨pb, 0, none⟩ = false)
    (h : ¬ (1 ≤ e.kind ∧ e.kind ≤ 10) ∨ depth < 1 ∨ m < 1) :
    Calls Tryz.prog 125 #[.agg #[.int .i64 e.kind, .int .i64 e.num, .string e.meter, kv, tv], .int .i64 depth, .pointer (some ⟨pb, 0, none⟩)] w fun x w' => ∃ (r : Bool) (m' : Int), x = .returned (.bool r) ∧ WOk e depth m r m' ∧ w'.cell? ⟨pb, 0, none⟩ = some (.int .i64 m') ∧ w'.frozen? ⟨pb, 0, none⟩ = false ∧ w.grownBy w' (some pb) := by
  have HW : Hid (WOk e depth m false (m - 1)) := hide ⟨fun h => (by cases h), fun _ ⟨a, b, c⟩ => by
    have := nodeE_in (allB_node a)
    have := cnt_pos e
    have := dep_pos e
    omega⟩
  have hne : ¬ w.heap.size = pb := by omega
  have hne' : ¬ pb = w.heap.size := by omega
  obtain ⟨x1, x2, x3⟩ := after_set w (.cells #[.int .i64 e.kind, .int .i64 e.num, .string e.meter, kv, tv] 77) pb _ (.int .i64 (m - 1)) hpb hc hf
  have HX1 := hide x1
  have HX2 := hide x2
  have HX3 := hide x3
  clear x1 x2 x3
  by_cases hk : 1 ≤ e.kind ∧ e.kind ≤ 10
  · have hkv := kindV_in hk
    by_cases hd : depth < 1
    · clear h
      go_enter Tryz.func125, Tryz.ntmps125
      go_wp2_with (fail)
      refine (kindOf _ _).mono ?_
      rintro x w1 ⟨rfl, rfl⟩
      rw [hkv]
      clear hkv
      go_wp2_with (fail)
      go_ret
      exact ⟨_, _, rfl, unhide HW, unhide HX1, unhide HX2, unhide HX3⟩
    · have hm : m - 1 < 0 := by omega
      clear h
      go_enter Tryz.func125, Tryz.ntmps125
      go_wp2_with (fail)
      refine (kindOf _ _).mono ?_
      rintro x w1 ⟨rfl, rfl⟩
      rw [hkv]
      clear hkv
      go_wp2_with (fail)
      go_ret
      exact ⟨_, _, rfl, unhide HW, unhide HX1, unhide HX2, unhide HX3⟩
  · have hkv := kindV_out hk
    clear h
    go_enter Tryz.func125, Tryz.ntmps125
    go_wp2_with (fail)
    refine (kindOf _ _).mono ?_
    rintro x w1 ⟨rfl, rfl⟩
    rw [hkv]
    clear hkv
    go_wp2_with (fail)
    go_ret
    exact ⟨_, _, rfl, unhide HW, unhide HX1, unhide HX2, unhide HX3⟩
end Go.Proofs.YtnchgeiinkaefaaGreatDoor.Rule
end

section
/-
  impl.okWithin, behind its head.
-/
namespace Go.Proofs.YtnchgeiinkaefaaGreatDoor.Rule
set_option linter.unusedVariables false
open Go.RowKit Tiers
open Kinds hiding hide unhide below_trans ext_toList

/-- what is there behind the head of okWithin: the expression in its box, and one less in the pointer's cell -/
structure Head (w W : World) (pb : Nat) (e : Ex) (kv tv : Value) (m : Int) : Prop where
  box : W.cell? ⟨w.heap.size, 0, none⟩ = some (.int .i64 e.kind) ∧ W.cell? ⟨w.heap.size, 1, none⟩ = some (.int .i64 e.num) ∧ W.cell? ⟨w.heap.size, 2, none⟩ = some (.string e.meter) ∧ W.cell? ⟨w.heap.size, 3, none⟩ = some kv ∧ W.cell? ⟨w.heap.size, 4, none⟩ = some tv
  cell : W.cell? ⟨pb, 0, none⟩ = some (.int .i64 m)
  frozen : W.frozen? ⟨pb, 0, none⟩ = false
  grown : w.grownBy W (some pb)
  size : w.heap.size < W.heap.size
theorem Head.kept {w W W' : World} {pb : Nat} {e : Ex} {kv tv : Value} {m : Int} (h : Head w W pb e kv tv m) (hb : Below W.heap.size W W') (hpb : pb < w.heap.size) : Head w W' pb e kv tv m := by
  obtain ⟨⟨b0, b1, b2, b3, b4⟩, hc, hf, hg, hs⟩ := h
  refine ⟨⟨(hb.cell (p := ⟨w.heap.size, 0, none⟩) hs).trans b0, (hb.cell (p := ⟨w.heap.size, 1, none⟩) hs).trans b1, (hb.cell (p := ⟨w.heap.size, 2, none⟩) hs).trans b2, (hb.cell (p := ⟨w.heap.size, 3, none⟩) hs).trans b3, (hb.cell (p := ⟨w.heap.size, 4, none⟩) hs).trans b4⟩,
    (hb.cell (p := ⟨pb, 0, none⟩) (by simp; omega)).trans hc, (hb.frozen (p := ⟨pb, 0, none⟩) (by simp; omega)).trans hf, ?_, Nat.lt_of_lt_of_le hs hb.size⟩
  exact ⟨hb.os.trans hg.os, hb.tape.trans hg.tape, hb.output.trans hg.output, Nat.le_trans hg.size hb.size, fun j hj hne => (hb.block j (by omega)).trans (hg.block j hj hne)⟩
theorem Head.drew {w W : World} {pb : Nat} {e : Ex} {kv tv : Value} {m : Int} (h : Head w W pb e kv tv m) : Head w W.drew pb e kv tv m := ⟨h.box, h.cell, h.frozen, ⟨h.grown.os, h.grown.tape, h.grown.output, h.grown.size, h.grown.block⟩, h.size⟩
theorem Head.new (w : World) (pb : Nat) (e : Ex) (kv tv : Value) (m : Int) (t : TypeId) (hpb : pb < w.heap.size) (hc : w.cell? ⟨pb, 0, none⟩ = some (.int .i64 m)) (hf : w.frozen? ⟨pb, 0, none⟩ = false) :
    Head w ((w.setCell ⟨pb, 0, none⟩ (.int .i64 (m - 1))).alloc (.cells #[.int .i64 e.kind, .int .i64 e.num, .string e.meter, kv, tv] t)) pb e kv tv (m - 1) := by
  obtain ⟨x1, x2, x3⟩ := after_set w (.cells #[.int .i64 e.kind, .int .i64 e.num, .string e.meter, kv, tv] t) pb _ (.int .i64 (m - 1)) hpb hc hf
  have n := new5 (w.setCell ⟨pb, 0, none⟩ (.int .i64 (m - 1))) (.int .i64 e.kind) (.int .i64 e.num) (.string e.meter) kv tv t
  have hs : (w.setCell ⟨pb, 0, none⟩ (.int .i64 (m - 1))).heap.size = w.heap.size := by simp
  rw [hs] at n
  exact ⟨n, x1, x2, x3, by simp⟩

set_option maxHeartbeats 1600000 in
theorem okW_kids (pb : Nat) (ka : Option Addr) (kc : Nat) (tv : Value) (e : Ex) (depth m : Int) (w : World) (hpb : pb < w.heap.size) (d1 : 1 ≤ depth) (d2 : depth ≤ 8) (m1 : 1 ≤ m) (m2 : m ≤ 40) (hc : w.cell? ⟨pb, 0, none⟩ = some (.int .i64 m)) (hf : w.frozen? ⟨pb, 0, none⟩ = false)
    (hk : 1 ≤ e.kind ∧ e.kind ≤ 10) (hkl : e.kids.length ≤ 1048576) (h : (e.kids.length : Int) ≠ kidsK e.kind) :
    Calls Tryz.prog 125 #[.agg #[.int .i64 e.kind, .int .i64 e.num, .string e.meter, .slice ka e.kids.length kc, tv], .int .i64 depth, .pointer (some ⟨pb, 0, none⟩)] w fun x w' => ∃ (r : Bool) (m' : Int), x = .returned (.bool r) ∧ WOk e depth m r m' ∧ w'.cell? ⟨pb, 0, none⟩ = some (.int .i64 m') ∧ w'.frozen? ⟨pb, 0, none⟩ = false ∧ w.grownBy w' (some pb) := by
  have HW : Hid (WOk e depth m false (m - 1)) := hide ⟨fun h => (by cases h), fun _ ⟨a, _, _⟩ => h (nodeE_in (allB_node a)).2.2.1⟩
  have b1 : ((e.kids.length : Int) != kidsK e.kind) = true := bne_iff_ne.2 h
  have hne : ¬ w.heap.size = pb := by omega
  have hne' : ¬ pb = w.heap.size := by omega
  have hH := Head.new w pb e (.slice ka e.kids.length kc) tv m 77 hpb hc hf
  obtain ⟨W5, hW5⟩ : ∃ W5, (w.setCell ⟨pb, 0, none⟩ (.int .i64 (m - 1))).alloc (.cells #[.int .i64 e.kind, .int .i64 e.num, .string e.meter, .slice ka e.kids.length kc, tv] 77) = W5 := ⟨_, rfl⟩
  rw [hW5] at hH
  have HW5 := hide hW5
  have HH := hide hH
  obtain ⟨⟨g0, g1, g2, g3, g4⟩, _, _, _, hs5⟩ := hH
  clear hW5 h
  have hkv := kindV_in hk
  have mm1 := mLook hk
  have fl : ∀ (w : World), (Instr.field 192 (.agg #[.string (wordK e.kind), .int .i64 (kidsK e.kind)]) 1).run Tryz.prog w = .ok (.int .i64 (kidsK e.kind)) w := fun w => by kernel_rfl
  go_enter Tryz.func125, Tryz.ntmps125
  go_wp2_with (fail)
  refine (kindOf _ _).mono ?_
  rintro x w1 ⟨rfl, rfl⟩
  rw [hkv]
  clear hkv
  go_wp2_with (fail)
  rw [unhide HW5]
  clear HW5
  first | (go_region_with (go_at_call 262; refine (Kinds.look (wordK e.kind) (kidsK e.kind) _).mono ?_; rintro x w6 ⟨rfl, hb6⟩; have hB6 : Below W5.heap.size W5 w6 := ⟨hb6.os, hb6.tape, hb6.output, hb6.size, hb6.block⟩; clear hb6; have q3 := (hB6.cell (p := ⟨w.heap.size, 3, none⟩) hs5).trans g3)) | fail
  all_goals
    have HH6 := hide ((unhide HH).kept hB6 hpb)
    clear hB6 q3 g0 g1 g2 g3 g4 HH
    go_wp2_with (fail)
    go_ret
    exact ⟨_, _, rfl, unhide HW, (unhide HH6).cell, (unhide HH6).frozen, (unhide HH6).grown⟩

end Go.Proofs.YtnchgeiinkaefaaGreatDoor.Rule
end
