/-
  Texts of this proof laid together, in build order; each says of itself what it holds.
-/
import Derived.Test.YtkdaljonmkfdaaaGreatDoorZac
import Derived.Deep.AppendLies
import Derived.Test.YtkdaljonmkfdaaaGreatDoorProg
import Derived.WalkKit
import Derived.WalkLawsBesides
import Derived.Below
import Derived.Deep.QuietTactic
import Derived.BigQuiet
import Derived.Deep.OwnRows
import Derived.WalkMore
import Derived.Outline
import Derived.Deep.RegionHeld3
import Derived.Lib.Strings
import Derived.Laws.IdiomStrings
section
/-
  Kids that are appended one by one to a row of the call's own.
-/
namespace Go.Proofs.YtkdaljonmkfdaaaGreatDoor.Rule
set_option linter.unusedVariables false
open Go.RowKit
open Tiers (T T0)

/-- a kid, and the values of its two lists -/
abbrev X := Ex × Value × Value
abbrev cells5 (x : X) : List Value := [.int .i64 x.1.kind, .int .i64 x.1.num, .string x.1.meter, x.2.1, x.2.2]
def flatK (l : List X) : List Value := l.flatMap cells5
theorem flatK_len : ∀ l : List X, (flatK l).length = l.length * 5
  | [] => rfl
  | x :: l => by
    have e : flatK (x :: l) = cells5 x ++ flatK l := rfl
    rw [e, List.length_append, flatK_len l, List.length_cons]
    show 5 + l.length * 5 = (l.length + 1) * 5
    omega
theorem flatK_get : ∀ (l : List X) (i : Nat) (x : X), l[i]? = some x → ∀ j u, j < 5 → (cells5 x)[j]? = some u → (flatK l)[i * 5 + j]? = some u
  | [], i, x, h, _, _, _, _ => by simp at h
  | y :: l, 0, x, h, j, u, hj, hu => by
    simp at h; subst h
    have e : flatK (y :: l) = cells5 y ++ flatK l := rfl
    rw [e, Nat.zero_mul, Nat.zero_add, List.getElem?_append_left (by show j < 5; omega)]
    exact hu
  | y :: l, i + 1, x, h, j, u, hj, hu => by
    simp only [List.getElem?_cons_succ] at h
    have e : flatK (y :: l) = cells5 y ++ flatK l := rfl
    have e2 : (i + 1) * 5 + j = 5 + (i * 5 + j) := by omega
    rw [e, List.getElem?_append_right (by show 5 ≤ _; omega)]
    have e3 : (i + 1) * 5 + j - (cells5 y).length = i * 5 + j := by show (i + 1) * 5 + j - 5 = _; omega
    rw [e3]
    exact flatK_get l i x h j u hj hu
theorem flatK_append (a b : List X) : flatK (a ++ b) = flatK a ++ flatK b := by unfold flatK; simp

/-- what hangs on a kid lies in blocks from B on, the row's own not among them -/
def Kid (W : World) (B : Nat) (g : Option Nat) (d : Nat) (x : X) : Prop :=
  (x.1.meter.size ≤ maxLen ∧ x.1.tiers.length ≤ maxLen) ∧ ∃ lo hi, ES lo hi W d x.2.1 x.1.kids ∧ TL lo hi W x.2.2 x.1.tiers ∧ B ≤ lo ∧ hi ≤ W.heap.size ∧ ∀ q, g = some q → q < lo ∨ hi ≤ q
/-- a row of kids of the call's own -/
structure KS (W : World) (B d : Nat) (kv : Value) (l : List X) : Prop where
  own : W.ownsRow B 25 5 kv l.length (flatK l)
  kid : ∀ x ∈ l, Kid W B kv.ownBlock d x

theorem KS.nil (W : World) (B d : Nat) : KS W B d (.slice none 0 0) [] := ⟨⟨rfl, .inl ⟨rfl, rfl⟩⟩, fun x hx => by cases hx⟩
theorem Kid.kept {W W' : World} {B : Nat} {g : Option Nat} {d : Nat} {x : X} {r : Option Nat} (h : Kid W B g d x) (hg : W.grownBy W' r) (hr : ∀ q, r = some q → q < B ∨ g = some q) : Kid W' B g d x := by
  obtain ⟨hz, lo, hi, h1, h2, h3, h4, h5⟩ := h
  have hs : Same lo hi W W' := fun b b1 b2 => hg.block b (by omega) (fun e => by
    rcases hr b e.symm with h | h
    · omega
    · rcases h5 b h with h | h <;> omega)
  exact ⟨hz, lo, hi, h1.kept hs, h2.kept hs, h3, Nat.le_trans h4 hg.size, h5⟩
theorem KS.kept {W W' : World} {B d : Nat} {kv : Value} {l : List X} {r : Option Nat} (h : KS W B d kv l) (hg : W.grownBy W' r) (hr : ∀ q, r = some q → q < B) : KS W' B d kv l := by
  refine ⟨?_, fun x hx => (h.kid x hx).kept hg (fun q hq => .inl (hr q hq))⟩
  obtain ⟨h1, h2⟩ := h.own
  refine ⟨h1, ?_⟩
  rcases h2 with h2 | ⟨g, cap, cur, rfl, hB, hb, h3⟩
  · exact .inl h2
  · have hlt : g < W.heap.size := by
      refine Nat.lt_of_not_le fun hn => ?_
      have : W.heap[g]? = none := by simp; omega
      rw [this] at hb; cases hb
    exact .inr ⟨g, cap, cur, rfl, hB, (hg.block g hlt (fun e => by have := hr g e.symm; omega)).trans hb, h3⟩
theorem KS.form {W : World} {B d : Nat} {kv : Value} {l : List X} (h : KS W B d kv l) : ∃ a c, kv = .slice a l.length c := by
  obtain ⟨h1, h2⟩ := h.own
  rcases h2 with ⟨rfl, h0⟩ | ⟨g, cap, cur, rfl, _⟩
  · exact ⟨none, 0, by rw [h0]⟩
  · exact ⟨_, _, rfl⟩
theorem KS.blk {W : World} {B d : Nat} {kv : Value} {l : List X} (h : KS W B d kv l) : ∀ q, kv.ownBlock = some q → B ≤ q ∧ q < W.heap.size := by
  obtain ⟨h1, h2⟩ := h.own
  rcases h2 with ⟨rfl, h0⟩ | ⟨g, cap, cur, rfl, hB, hb, _⟩
  · intro q hq; cases hq
  · intro q hq
    obtain rfl : g = q := by simpa [Value.ownBlock] using hq
    refine ⟨hB, Nat.lt_of_not_le fun hn => ?_⟩
    have : W.heap[g]? = none := by simp; omega
    rw [this] at hb; cases hb
theorem KS.es {W : World} {B d : Nat} {kv : Value} {l : List X} (h : KS W B d kv l) (hl : l.length ≤ 1000) : ES B W.heap.size W (d + 1) kv (l.map (·.1)) := by
  have ho := h.own
  have hb := h.blk
  obtain ⟨h1, h2⟩ := h.own
  rcases h2 with ⟨rfl, h0⟩ | ⟨g, cap, cur, rfl, _⟩
  · obtain rfl := List.length_eq_zero_iff.1 h0
    exact .inl ⟨rfl, _, _, rfl⟩
  · obtain ⟨g1, g2⟩ := hb g rfl
    refine .inr ⟨g, 0, cap, by simp, by simp; unfold maxLen; omega, g1, g2, fun i hi => ?_⟩
    have hi' : i < l.length := by simpa using hi
    have hx : l[i]? = some l[i] := List.getElem?_eq_getElem hi'
    have e : (l.map (·.1)).getD i E0 = l[i].1 := by simp [List.getD, hi']
    rw [e]
    obtain ⟨hz, lo, hi2, k1, k2, k3, k4, _⟩ := h.kid l[i] (List.getElem_mem _)
    have hc : ∀ j u, j < 5 → (cells5 l[i])[j]? = some u → W.cell? ⟨g, 0 + i * 5 + j, none⟩ = some u := fun j u hj hu => by
      have := ho.cells (g := g) rfl (i * 5 + j) u (flatK_get l i _ hx j u hj hu)
      rw [Addr.add_lit, Nat.zero_add] at this
      rw [Nat.zero_add]; exact this
    exact ⟨l[i].2.1, l[i].2.2, ⟨hc 0 _ (by omega) rfl, hc 1 _ (by omega) rfl, hc 2 _ (by omega) rfl, hc 3 _ (by omega) rfl, hc 4 _ (by omega) rfl⟩, hz, k1.mono k3 k4, k2.mono k3 k4⟩

theorem infoK : ∃ i, Tryz.prog.info? 25 = some i ∧ i.zero = some (.agg #[.int .i64 0, .int .i64 0, .string ByteArray.empty, .slice none 0 0, .slice none 0 0]) ∧ i.size = 5 ∧ i.bytes = 80 := by
  obtain ⟨i, hi, h2⟩ := Option.map_eq_some_iff.1 infoE
  simp only [Prod.mk.injEq] at h2
  exact ⟨i, hi, h2.1, h2.2.1, h2.2.2⟩

section
variable {ops : Array Oper} {o : Oper} {a : Act} {K : Act → World → Prop} {Q : Exit → Act → World → Prop} {P0 : Prop}
theorem listAppK (w : World) {rest : List Oper} (hgd : o.guard = none) (s x : Operand) (ho : o.op = .call { callee := .builtin .append, args := #[s, x], argTypes := #[22, 22] })
    (B N d n : Nat) (kv : Value) (l : List X) (q : X) (hn : l.length = n) (hs : a.eval s = kv) (hK : KS w B d kv l) (hx : a.eval x = .slice (some ⟨N, 0, none⟩) 1 1) (hN : w.heap[N]? = some (.cells (cells5 q).toArray 25 (0, 0)))
    (hq : Kid w B kv.ownBlock d q) (hl : l.length ≤ 900) (hB : B ≤ w.heap.size)
    (h : ∀ g c w', KS w' B d (.slice (some ⟨g, 0, none⟩) (n + 1) c) (l ++ [q]) → w.grownBy w' kv.ownBlock → (kv.ownBlock = some g ∨ g = w.heap.size) → wpList Tryz.prog ops Q rest (a.put o.dst (.slice (some ⟨g, 0, none⟩) (n + 1) c)) w') :
    wpList Tryz.prog ops Q (o :: rest) a w := by
  subst hn
  obtain ⟨i, hi, hz, hsz, hby⟩ := infoK
  have hone : ∀ u ∈ cells5 q, u.oneCell' = true := by
    obtain ⟨_, lo, hi, k1, k2, _⟩ := hq
    obtain ⟨ka, kc, e1, _⟩ := k1.form
    have e2 : ∃ a c, q.2.2 = .slice a q.1.tiers.length c := by
      rcases k2 with ⟨h0, a, c, h⟩ | ⟨b, o, cap, h, _⟩
      · exact ⟨a, c, by rw [h, h0]; rfl⟩
      · exact ⟨_, _, h⟩
    obtain ⟨ta, tc, e2⟩ := e2
    intro u hu
    simp only [cells5, e1, e2, List.mem_cons, List.not_mem_nil, or_false] at hu
    rcases hu with rfl | rfl | rfl | rfl | rfl <;> rfl
  refine wpList_append_lies (P := Tryz.prog) w hgd s x 22 ho B 25 i _ 5 80 Tryz.underlying22 hi hz hsz hby rfl (by omega) kv l.length (flatK l) hs hK.own ⟨N, 0, none⟩ 1 1 (cells5 q) hx rfl (World.news_of_block hN) hone (by omega) (by unfold maxLen; omega) (by omega) hB _ rfl ?_
  intro g c w' h1 h2 h3 h4
  refine h g c w' ⟨?_, ?_⟩ h2 h3
  · rw [flatK_append]
    have e : flatK [q] = cells5 q := by simp [flatK]
    rw [e, List.length_append]
    exact h1
  · intro y hy
    have key : ∀ y, Kid w B kv.ownBlock d y → Kid w' B (some g) d y := fun y hk => by
      obtain ⟨z, lo, hi, k1, k2, k3, k4, k5⟩ := hk.kept h2 (fun q hq => .inr hq)
      obtain ⟨_, lo', hi', j1, j2, j3, j4, j5⟩ := hk
      have hs : Same lo' hi' w w' := fun b b1 b2 => h2.block b (by omega) (fun e => by rcases j5 b e.symm with h | h <;> omega)
      refine ⟨z, lo', hi', j1.kept hs, j2.kept hs, j3, Nat.le_trans j4 h2.size, fun q hq => ?_⟩
      obtain rfl : g = q := by simpa using hq
      rcases h3 with h | h
      · exact j5 g h
      · exact .inr (by omega)
    rcases List.mem_append.1 hy with h' | h'
    · exact key y (hK.kid y h')
    · obtain rfl := List.mem_singleton.1 h'
      exact key _ hq
theorem stepAppK (w : World) (hgd : o.guard = none) (s x : Operand) (ho : o.op = .call { callee := .builtin .append, args := #[s, x], argTypes := #[22, 22] })
    (B N d n : Nat) (kv : Value) (l : List X) (q : X) (hn : l.length = n) (hs : a.eval s = kv) (hK : KS w B d kv l) (hx : a.eval x = .slice (some ⟨N, 0, none⟩) 1 1) (hN : w.heap[N]? = some (.cells (cells5 q).toArray 25 (0, 0)))
    (hq : Kid w B kv.ownBlock d q) (hl : l.length ≤ 900) (hB : B ≤ w.heap.size)
    (h : ∀ g c w', KS w' B d (.slice (some ⟨g, 0, none⟩) (n + 1) c) (l ++ [q]) → w.grownBy w' kv.ownBlock → (kv.ownBlock = some g ∨ g = w.heap.size) → K (a.put o.dst (.slice (some ⟨g, 0, none⟩) (n + 1) c)) w') :
    if Region.wanted o (yielded ops a.tmps) = true then Oper.wp Tryz.prog o a w K Q else P0 := by
  subst hn
  obtain ⟨i, hi, hz, hsz, hby⟩ := infoK
  have hone : ∀ u ∈ cells5 q, u.oneCell' = true := by
    obtain ⟨_, lo, hi, k1, k2, _⟩ := hq
    obtain ⟨ka, kc, e1, _⟩ := k1.form
    have e2 : ∃ a c, q.2.2 = .slice a q.1.tiers.length c := by
      rcases k2 with ⟨h0, a, c, h⟩ | ⟨b, o, cap, h, _⟩
      · exact ⟨a, c, by rw [h, h0]; rfl⟩
      · exact ⟨_, _, h⟩
    obtain ⟨ta, tc, e2⟩ := e2
    intro u hu
    simp only [cells5, e1, e2, List.mem_cons, List.not_mem_nil, or_false] at hu
    rcases hu with rfl | rfl | rfl | rfl | rfl <;> rfl
  refine step_append_lies (P := Tryz.prog) w hgd s x 22 ho B 25 i _ 5 80 Tryz.underlying22 hi hz hsz hby rfl (by omega) kv l.length (flatK l) hs hK.own ⟨N, 0, none⟩ 1 1 (cells5 q) hx rfl (World.news_of_block hN) hone (by omega) (by unfold maxLen; omega) (by omega) hB _ rfl ?_
  intro g c w' h1 h2 h3 h4
  refine h g c w' ⟨?_, ?_⟩ h2 h3
  · rw [flatK_append]
    have e : flatK [q] = cells5 q := by simp [flatK]
    rw [e, List.length_append]
    exact h1
  · intro y hy
    have key : ∀ y, Kid w B kv.ownBlock d y → Kid w' B (some g) d y := fun y hk => by
      obtain ⟨z, lo, hi, k1, k2, k3, k4, k5⟩ := hk.kept h2 (fun q hq => .inr hq)
      obtain ⟨_, lo', hi', j1, j2, j3, j4, j5⟩ := hk
      have hs : Same lo' hi' w w' := fun b b1 b2 => h2.block b (by omega) (fun e => by rcases j5 b e.symm with h | h <;> omega)
      refine ⟨z, lo', hi', j1.kept hs, j2.kept hs, j3, Nat.le_trans j4 h2.size, fun q hq => ?_⟩
      obtain rfl : g = q := by simpa using hq
      rcases h3 with h | h
      · exact j5 g h
      · exact .inr (by omega)
    rcases List.mem_append.1 hy with h' | h'
    · exact key y (hK.kid y h')
    · obtain rfl := List.mem_singleton.1 h'
      exact key _ hq
end
end Go.Proofs.YtkdaljonmkfdaaaGreatDoor.Rule
end

section
/-
  Slices of events (two texts and a number) in memory, and the laws' own helpers on them: size, copy, compare.
-/
namespace Go.Proofs.YtkdaljonmkfdaaaGreatDoor.Evs
set_option linter.unusedVariables false
open Go.RowKit

theorem hide {p : Prop} (h : p) : Hid p := h
theorem unhide {p : Prop} (h : Hid p) : p := h

abbrev E := ByteArray × ByteArray × Int
abbrev E0 : E := (ByteArray.empty, ByteArray.empty, 0)
/-- an event as a value -/
abbrev eV (e : E) : Value := .agg #[.string e.1, .string e.2.1, .int .i64 e.2.2]

/-- from o on block b holds the events l -/
def EC (W : World) (b o : Nat) (l : List E) : Prop := b < W.heap.size ∧ ∀ i, i < l.length → W.cell? ⟨b, o + i * 3, none⟩ = some (.string (l.getD i E0).1) ∧ W.cell? ⟨b, o + i * 3 + 1, none⟩ = some (.string (l.getD i E0).2.1) ∧ W.cell? ⟨b, o + i * 3 + 2, none⟩ = some (.int .i64 (l.getD i E0).2.2)

/-- the slice v holds the events l -/
def ER (W : World) (v : Value) (l : List E) : Prop :=
  (l = [] ∧ ∃ a c, v = .slice a 0 c) ∨ ∃ b o cap, v = .slice (some ⟨b, o, none⟩) l.length cap ∧ EC W b o l

theorem EC.kept {W W' : World} {b o : Nat} {l : List E} (h : EC W b o l) (hb : Below W.heap.size W W') : EC W' b o l :=
  ⟨Nat.lt_of_lt_of_le h.1 hb.size, fun i hi => ⟨(hb.cell (p := ⟨b, o + i * 3, none⟩) h.1).trans (h.2 i hi).1, (hb.cell (p := ⟨b, o + i * 3 + 1, none⟩) h.1).trans (h.2 i hi).2.1, (hb.cell (p := ⟨b, o + i * 3 + 2, none⟩) h.1).trans (h.2 i hi).2.2⟩⟩
theorem ER.kept {W W' : World} {v : Value} {l : List E} (h : ER W v l) (hb : Below W.heap.size W W') : ER W' v l := by
  rcases h with h | ⟨b, o, cap, rfl, hc⟩
  · exact .inl h
  · exact .inr ⟨b, o, cap, rfl, hc.kept hb⟩
theorem ER.slice {W : World} {v : Value} {l : List E} (h : ER W v l) : ∃ a c, v = .slice a l.length c := by
  rcases h with ⟨rfl, a, c, rfl⟩ | ⟨b, o, cap, rfl, _⟩
  · exact ⟨_, _, rfl⟩
  · exact ⟨_, _, rfl⟩
theorem below_trans {w w1 w2 : World} (h : Below w.heap.size w w1) (k : Below w1.heap.size w1 w2) : Below w.heap.size w w2 := h.trans (k.mono h.size)

/-- szUseEvent -/
theorem szEv (s m : ByteArray) (q n : Int) (w : World) (hu : s.size ≤ maxLen) (hm : m.size ≤ maxLen) (h0 : 0 ≤ n) (h1 : n ≤ 1048576) :
    Calls Tryz.prog 73 #[.agg #[.string s, .string m, .int .i64 q], .int .i64 n] w fun e w' => ∃ r : Int, e = .returned (.int .i64 r) ∧ -1 ≤ r ∧ r ≤ n ∧ Below w.heap.size w w' := by
  unfold maxLen at hu hm
  by_cases hn : n - s.size < 0
  · go_enter Tryz.func73, Tryz.ntmps73
    go_wp2
    go_ret
    exact ⟨_, rfl, by omega, by omega, (Below.refl _ _).alloc (Nat.le_refl _) _⟩
  by_cases hn2 : n - s.size - m.size < 0
  · go_enter Tryz.func73, Tryz.ntmps73
    go_wp2
    go_ret
    exact ⟨_, rfl, by omega, by omega, (Below.refl _ _).alloc (Nat.le_refl _) _⟩
  · go_enter Tryz.func73, Tryz.ntmps73
    go_wp2
    go_ret
    exact ⟨_, rfl, by omega, by omega, (Below.refl _ _).alloc (Nat.le_refl _) _⟩

/-- szUseEventS -/
theorem szEvs (v : Value) (l : List E) (n : Int) (w : World) (h : ER w v l) (hl : l.length ≤ maxLen) (hs : ∀ u ∈ l, u.1.size ≤ maxLen ∧ u.2.1.size ≤ maxLen) (h0 : 0 ≤ n) (h1 : n ≤ 1048576) :
    Calls Tryz.prog 29 #[v, .int .i64 n] w fun e w' => ∃ r : Int, e = .returned (.int .i64 r) ∧ -1 ≤ r ∧ r ≤ n ∧ (0 ≤ r → l.length ≤ n) ∧ Below w.heap.size w w' := by
  have hs' := hs
  unfold maxLen at hl hs
  by_cases hneg : n - l.length < 0
  · obtain ⟨a, c, rfl⟩ := h.slice
    clear h
    go_enter Tryz.func29, Tryz.ntmps29
    go_wp2
    go_ret
    exact ⟨_, rfl, by omega, by omega, fun h => by omega, Below.refl _ _⟩
  rcases h with ⟨rfl, a, c, rfl⟩ | ⟨b, o, cap, rfl, hc⟩
  · go_enter Tryz.func29, Tryz.ntmps29
    go_wp2
    refine wp_loop_rounds 1 ?_
    rw [rounds_succ]
    go_wp2
    go_ret
    exact ⟨_, rfl, by omega, by omega, fun h => by simpa using h0, Below.refl _ _⟩
  · have HC := hide hc; clear hc
    go_enter Tryz.func29, Tryz.ntmps29
    go_wp2
    go_loopw [1, 5] (fun t i wr => ∃ (k : Nat) (q : Int), k ≤ l.length ∧ i = .int .i64 k ∧ t = .int .i64 q ∧ 0 ≤ q ∧ q ≤ n ∧ Hid (Below w.heap.size w wr)) (fun _ i _ => l.length - (intOf i).toNat)
    case atStart => exact ⟨0, _, by omega, rfl, rfl, by omega, by omega, hide (Below.refl _ _)⟩
    case round =>
      obtain ⟨k, q, hk, rfl, rfl, hq0, hq1, hb⟩ := hrel
      by_cases hlt : k < l.length
      · have hc := ((unhide HC).kept (unhide hb)).2 k hlt
        obtain ⟨c1, c2, c3⟩ := hc
        obtain ⟨hsz, hmz⟩ : (l.getD k E0).1.size ≤ maxLen ∧ (l.getD k E0).2.1.size ≤ maxLen := hs' _ (by simp [List.getD, hlt])
        generalize (l.getD k E0).1 = s at *
        generalize (l.getD k E0).2.1 = m at *
        generalize (l.getD k E0).2.2 = z at *
        go_wp2_with (fail)
        refine (szEv s m z q wr hsz hmz hq0 (by omega)).mono ?_
        rintro e w1 ⟨r, rfl, r1, r2, hb1⟩
        have HB : Hid (Below w.heap.size w w1) := hide (below_trans (unhide hb) hb1)
        clear hb hb1
        by_cases hr : r < 0
        · go_wp2
          go_ret
          exact ⟨_, rfl, by omega, by omega, fun h => by omega, unhide HB⟩
        · go_wp2
          exact ⟨⟨k + 1, r, by omega, by go_num, rfl, by omega, by omega, HB⟩, by simp [intOf]; omega⟩
      · go_wp2
        go_ret
        exact ⟨_, rfl, by omega, by omega, fun h => by omega, unhide hb⟩

/-! ### The copy -/

/-- a row of events of the call's own: block b holds l, nothing of it is frozen -/
def EOwn (W : World) (b : Nat) (l : List E) : Prop := EC W b 0 l ∧ ∀ j, W.frozen? ⟨b, j, none⟩ = false

/-- the slice v holds the events l in a block of its own, not below B -/
def EN (B : Nat) (W : World) (v : Value) (l : List E) : Prop :=
  (l = [] ∧ ∃ a c, v = .slice a 0 c) ∨ ∃ b cap, v = .slice (some ⟨b, 0, none⟩) l.length cap ∧ (B ≤ b ∧ l.length ≤ cap) ∧ EOwn W b l
theorem EN.er {B : Nat} {W : World} {v : Value} {l : List E} (h : EN B W v l) : ER W v l := by
  rcases h with h | ⟨b, cap, rfl, _, hc⟩
  · exact .inl h
  · exact .inr ⟨b, 0, cap, rfl, hc.1⟩

theorem EOwn.set {W : World} {b : Nat} {l : List E} (h : EOwn W b l) {k : Nat} (hk : k < l.length) (x : E) :
    EOwn (((W.setCell ⟨b, 0 + k * 3, none⟩ (.string x.1)).setCell ⟨b, 0 + k * 3 + 1, none⟩ (.string x.2.1)).setCell ⟨b, 0 + k * 3 + 2, none⟩ (.int .i64 x.2.2)) b (l.set k x) := by
  refine ⟨⟨by simpa using h.1.1, fun i hi => ?_⟩, fun j => by simpa [World.frozen?_setCell] using h.2 j⟩
  have hi' : i < l.length := by simpa using hi
  obtain ⟨c0, c1, c2⟩ := h.1.2 i hi'
  by_cases e : i = k
  · subst e
    rw [List.getD_eq_getElem?_getD, List.getElem?_set_self hi']
    refine ⟨?_, ?_, ?_⟩
    · rw [World.cell?_setCell_other _ _ _ _ (by simp), World.cell?_setCell_other _ _ _ _ (by simp)]
      exact World.cell?_setCell_same _ _ _ c0
    · rw [World.cell?_setCell_other _ _ _ _ (by simp)]
      exact World.cell?_setCell_same _ _ _ (by rw [World.cell?_setCell_other _ _ _ _ (by simp)]; exact c1)
    · exact World.cell?_setCell_same _ _ _ (by rw [World.cell?_setCell_other _ _ _ _ (by simp), World.cell?_setCell_other _ _ _ _ (by simp)]; exact c2)
  · have d : ∀ (a b' : Nat), a < 3 → b' < 3 → (⟨b, 0 + k * 3 + b', none⟩ : Addr) ≠ ⟨b, 0 + i * 3 + a, none⟩ := fun a b' ha hb he => by
      simp only [Addr.mk.injEq, and_true, true_and] at he; omega
    have d00 := d 0 0 (by omega) (by omega)
    have d01 := d 0 1 (by omega) (by omega)
    have d02 := d 0 2 (by omega) (by omega)
    have d10 := d 1 0 (by omega) (by omega)
    have d20 := d 2 0 (by omega) (by omega)
    simp only [Nat.add_zero] at d00 d01 d02 d10 d20
    rw [World.cell?_setCell_other _ _ _ _ d02, World.cell?_setCell_other _ _ _ _ d01, World.cell?_setCell_other _ _ _ _ d00, World.cell?_setCell_other _ _ _ _ (d 1 2 (by omega) (by omega)), World.cell?_setCell_other _ _ _ _ (d 1 1 (by omega) (by omega)), World.cell?_setCell_other _ _ _ _ d10, World.cell?_setCell_other _ _ _ _ (d 2 2 (by omega) (by omega)), World.cell?_setCell_other _ _ _ _ (d 2 1 (by omega) (by omega)), World.cell?_setCell_other _ _ _ _ d20, c0, c1, c2, List.getD_eq_getElem?_getD, List.getD_eq_getElem?_getD, List.getElem?_set_ne (by omega)]
    exact ⟨rfl, rfl, rfl⟩

theorem EOwn.kept {W W' : World} {b : Nat} {l : List E} (h : EOwn W b l) (hb : Below W.heap.size W W') : EOwn W' b l :=
  ⟨h.1.kept hb, fun j => (hb.frozen (p := ⟨b, j, none⟩) h.1.1).trans (h.2 j)⟩
theorem EN.kept {B : Nat} {W W' : World} {v : Value} {l : List E} (h : EN B W v l) (hb : Below W.heap.size W W') : EN B W' v l := by
  rcases h with h | ⟨b, cap, rfl, h1, hc⟩
  · exact .inl h
  · exact .inr ⟨b, cap, rfl, h1, hc.kept hb⟩
theorem EN.low {B B' : Nat} {W : World} {v : Value} {l : List E} (h : EN B W v l) (hb : B' ≤ B) : EN B' W v l := by
  rcases h with h | ⟨b, cap, rfl, h1, hc⟩
  · exact .inl h
  · exact .inr ⟨b, cap, rfl, ⟨Nat.le_trans hb h1.1, h1.2⟩, hc⟩

/-- there is room for what it holds -/
def capOk (v : Value) : Prop := ∀ a n c, v = .slice a n c → n ≤ c
theorem EN.cap {B : Nat} {W : World} {v : Value} {l : List E} (h : EN B W v l) : capOk v := by
  intro a n c hv
  rcases h with ⟨_, a', c', rfl⟩ | ⟨b, cap, rfl, h1, _⟩
  · simp only [Value.slice.injEq] at hv; omega
  · simp only [Value.slice.injEq] at hv; omega

theorem infoE : (Tryz.prog.info? 122).map (fun i => (i.zero, i.size, i.bytes)) = some (some (.agg #[.string ByteArray.empty, .string ByteArray.empty, .int .i64 0]), 3, 40) := by kernel_rfl

theorem makeE (n : Nat) (hn : n ≤ 1048576) (w : World) : (Instr.makeSlice 39 (.int .i64 (n : Int)) (.int .i64 (n : Int))).run Tryz.prog w = .ok (.slice (some ⟨w.heap.size, 0, none⟩) n n) (w.alloc (.cells (madeCells #[.string ByteArray.empty, .string ByteArray.empty, .int .i64 0] (n * 3)) 122)) := by
  obtain ⟨i, hi, h2⟩ := Option.map_eq_some_iff.1 infoE
  simp only [Prod.mk.injEq] at h2
  obtain ⟨hz, hs, hb⟩ := h2
  have := run_make (P := Tryz.prog) w 39 122 i _ Tryz.underlying39 hi hz .i64 .i64 n n (by omega) (by omega) (by rw [hb]; omega) (by omega)
  have e : (Value.agg #[.string ByteArray.empty, .string ByteArray.empty, .int .i64 0]).cells = #[.string ByteArray.empty, .string ByteArray.empty, .int .i64 0] := rfl
  rw [hs, e] at this
  simpa using this

theorem EOwn.made (w : World) (n : Nat) (t : TypeId) : EOwn (w.alloc (.cells (madeCells #[.string ByteArray.empty, .string ByteArray.empty, .int .i64 0] (n * 3)) t)) w.heap.size (List.replicate n E0) := by
  have e1 := (MapKept.heap_alloc w (.cells (madeCells #[.string ByteArray.empty, .string ByteArray.empty, .int .i64 0] (n * 3)) t)).1
  refine ⟨⟨by simp, fun i hi => ?_⟩, fun j => ?_⟩
  · have hi' : i < n := by simpa using hi
    have m0 : i * 3 % 3 = 0 := by omega
    have m1 : (i * 3 + 1) % 3 = 1 := by omega
    have m2 : (i * 3 + 2) % 3 = 2 := by omega
    have l0 : i * 3 < n * 3 := by omega
    have l1 : i * 3 + 1 < n * 3 := by omega
    have l2 : i * 3 + 2 < n * 3 := by omega
    simp only [World.cell?]
    rw [e1]
    refine ⟨?_, ?_, ?_⟩
    · simp [madeCells, hi', l0, m0]
    · simp [madeCells, hi', l1, m1]
    · simp [madeCells, hi', l2, m2]
  · simp only [World.frozen?]
    rw [e1]; simp

theorem copy_step (l : List E) (k : Nat) (h : k < l.length) : (l.take k ++ List.replicate (l.length - k) E0).set k (l.getD k E0) = l.take (k + 1) ++ List.replicate (l.length - (k + 1)) E0 := by
  have e : l.length - k = (l.length - (k + 1)) + 1 := by omega
  rw [e, List.replicate_succ, List.set_append_right _ _ (by simp; omega)]
  have e2 : k - (l.take k).length = 0 := by simp; omega
  rw [e2, List.set_cons_zero]
  have e3 : l.take (k + 1) = l.take k ++ [l.getD k E0] := by rw [List.take_add_one, List.getElem?_eq_getElem h]; simp [List.getD, h]
  rw [e3, List.append_assoc]; rfl

theorem toEv (s m : ByteArray) (q : Int) (w : World) :
    Calls Tryz.prog 79 #[.agg #[.string s, .string m, .int .i64 q]] w fun e w' => e = .returned (.agg #[.string s, .string m, .int .i64 q]) ∧ Below w.heap.size w w' := by
  go_enter Tryz.func79, Tryz.ntmps79
  go_wp2
  exact bodyPost_ret (v := .agg #[.string s, .string m, .int .i64 q]) (by simp [results, Tryz.results79, go_sem]) rfl ⟨rfl, ((((Below.refl _ _).alloc (Nat.le_refl _) _).alloc (by simp) _).alloc (by simp; omega) _)⟩

set_option maxHeartbeats 800000 in
theorem toEvs (v : Value) (l : List E) (w : World) (h : ER w v l) (hl : l.length ≤ 1048576) :
    Calls Tryz.prog 37 #[v] w fun e w' => ∃ v', e = .returned v' ∧ EN w.heap.size w' v' l ∧ Below w.heap.size w w' := by
  have hmk := makeE l.length hl
  rcases h with ⟨rfl, a, c, rfl⟩ | ⟨b, o, cap, rfl, h2⟩
  · clear hmk hl
    have hmk0 : ∀ w : World, (Instr.makeSlice 39 (.int .i64 0) (.int .i64 0)).run Tryz.prog w = .ok (.slice (some ⟨w.heap.size, 0, none⟩) 0 0) (w.alloc (.cells #[] 122)) := fun w => by kernel_rfl
    go_enter Tryz.func37, Tryz.ntmps37
    go_wp2
    refine wp_loop_rounds 1 ?_
    rw [rounds_succ]
    go_wp2
    go_ret
    exact ⟨_, rfl, .inl ⟨rfl, _, _, rfl⟩, (Below.refl _ _).alloc (Nat.le_refl _) _⟩
  · have H3 := hide h2; clear h2
    have hbs := (unhide H3).1
    go_enter Tryz.func37, Tryz.ntmps37
    go_wp2
    go_loopw [4] (fun i wr => ∃ k : Nat, k ≤ l.length ∧ i = .int .i64 k ∧ Hid (EOwn wr w.heap.size (l.take k ++ List.replicate (l.length - k) E0)) ∧ Below w.heap.size w wr) (fun i _ => l.length - (intOf i).toNat)
    case atStart => exact ⟨0, Nat.zero_le _, rfl, by show EOwn _ _ _; simpa using EOwn.made w l.length _, (Below.refl _ _).alloc (Nat.le_refl _) _⟩
    case round =>
      obtain ⟨k, hk, rfl, hd, hb⟩ := hrel
      by_cases hlt : k < l.length
      · obtain ⟨c0, c1, c2⟩ := ((unhide H3).kept hb).2 k hlt
        have HK : Hid (∀ w1, Below wr.heap.size wr w1 → EOwn w1 w.heap.size (l.take k ++ List.replicate (l.length - k) E0)) := hide (fun w1 h1 => (unhide hd).kept h1)
        have HS : Hid (∀ w1, EOwn w1 w.heap.size (l.take k ++ List.replicate (l.length - k) E0) → EOwn (((w1.setCell ⟨w.heap.size, k * 3, none⟩ (.string (l.getD k E0).1)).setCell ⟨w.heap.size, k * 3 + 1, none⟩ (.string (l.getD k E0).2.1)).setCell ⟨w.heap.size, k * 3 + 2, none⟩ (.int .i64 (l.getD k E0).2.2)) w.heap.size (l.take (k + 1) ++ List.replicate (l.length - (k + 1)) E0)) := hide (fun w1 h1 => by
          have := h1.set (k := k) (by simp; omega) (l.getD k E0)
          rwa [copy_step l k hlt, Nat.zero_add] at this)
        have HB := hide hb
        have hk2 : k < (l.take k ++ List.replicate (l.length - k) E0).length := by simp; omega
        clear hb hd
        generalize l.getD k E0 = x at *
        obtain ⟨s, m, q⟩ := x
        generalize hL : l.take k ++ List.replicate (l.length - k) E0 = L at *
        have HL := hide hL
        clear hL
        simp only at c0 c1 c2 HS
        go_wp2_with (fail)
        refine (toEv s m q wr).mono ?_
        rintro e w1 ⟨rfl, hb1⟩
        have HX := hide (unhide HS w1 (unhide HK w1 hb1))
        obtain ⟨⟨_, hcs⟩, hfz⟩ := unhide HK w1 hb1
        obtain ⟨d0, d1, d2⟩ := hcs k hk2
        have f0 := hfz (k * 3)
        have f1 := hfz (k * 3 + 1)
        have f2 := hfz (k * 3 + 2)
        rw [Nat.zero_add] at d0 d1 d2
        clear hcs hfz
        have HB1 : Hid (Below w.heap.size w w1) := hide (below_trans (unhide HB) hb1)
        clear hb1 HB
        generalize (L.getD k E0).1 = y0 at *
        generalize (L.getD k E0).2.1 = y1 at *
        generalize (L.getD k E0).2.2 = y2 at *
        go_wp2
        exact ⟨⟨k + 1, by omega, by go_num, HX, (((unhide HB1).setCell (Nat.le_refl _) _).setCell (Nat.le_refl _) _).setCell (Nat.le_refl _) _⟩, by simp [intOf]; omega⟩
      · obtain rfl : k = l.length := by omega
        go_wp2
        go_ret
        refine ⟨_, rfl, .inr ⟨w.heap.size, l.length, rfl, ⟨Nat.le_refl _, Nat.le_refl _⟩, ?_⟩, hb⟩
        have := unhide hd
        simpa using this

/-- eqUseEvent, of one and the same -/
theorem eqEv (s m : ByteArray) (p : Int) (w : World) :
    Calls Tryz.prog 92 #[.agg #[.string s, .string m, .int .i64 p], .agg #[.string s, .string m, .int .i64 p]] w fun e w' => e = .returned (.bool true) ∧ Below w.heap.size w w' := by
  have h1 : (!s.toList == s.toList) = false := by simp
  have h3 : (!m.toList == m.toList) = false := by simp
  have h2 : (p != p) = false := by simp
  go_enter Tryz.func92, Tryz.ntmps92
  go_wp2
  go_ret
  exact ⟨rfl, ((Below.refl _ _).alloc (Nat.le_refl _) _).alloc (by simp) _⟩

theorem below_drewN' {B : Nat} {a w : World} (h : Below B a w) (k : Nat) : Below B a (w.drewN k) := ⟨h.os, h.tape, h.output, h.size, h.block⟩
theorem below_of_drew {B : Nat} {a w : World} (h : Below B a.drew w) : Below B a w := ⟨h.os, h.tape, h.output, h.size, h.block⟩
theorem below_of_drewN {B : Nat} {a w : World} {k : Nat} (h : Below B (a.drewN k) w) : Below B a w := ⟨h.os, h.tape, h.output, h.size, h.block⟩

set_option maxHeartbeats 800000 in
theorem eqEvs (v v' : Value) (l : List E) (w : World) (h : ER w v l) (h' : ER w v' l) (hl : l.length ≤ 1048576) :
    Calls Tryz.prog 46 #[v, v'] w fun e w' => e = .returned (.bool true) ∧ Below w.heap.size w w' := by
  have hn : (((l.length : Int)) != (l.length : Int)) = false := by simp
  by_cases h0 : l.length = 0
  · obtain rfl : l = [] := List.length_eq_zero_iff.1 h0
    obtain ⟨a, c, rfl⟩ := h.slice
    obtain ⟨a', c', rfl⟩ := h'.slice
    clear h h' h0 hl hn
    go_enter Tryz.func46, Tryz.ntmps46
    go_wp2
    refine wp_loop_rounds 1 ?_
    rw [rounds_succ]
    go_wp2
    go_ret
    exact ⟨rfl, Below.refl _ _⟩
  · rcases h with ⟨rfl, _⟩ | ⟨b, o, cap, rfl, hc⟩
    · simp at h0
    rcases h' with ⟨rfl, _⟩ | ⟨b', o', cap', rfl, hc'⟩
    · simp at h0
    have HC := hide hc; have HC' := hide hc'
    have hbs := hc.1
    have hbs' := hc'.1
    clear hc hc' h0
    go_enter Tryz.func46, Tryz.ntmps46
    go_wp2
    go_loopw [5] (fun i wr => ∃ k : Nat, k ≤ l.length ∧ i = .int .i64 k ∧ Hid (Below w.heap.size w wr)) (fun i _ => l.length - (intOf i).toNat)
    case atStart => exact ⟨0, Nat.zero_le _, rfl, hide (Below.refl _ _)⟩
    case round =>
      obtain ⟨k, hk, rfl, hb⟩ := hrel
      by_cases hlt : k < l.length
      · obtain ⟨c0, c1, c2⟩ := ((unhide HC).kept (unhide hb)).2 k hlt
        obtain ⟨d0, d1, d2⟩ := ((unhide HC').kept (unhide hb)).2 k hlt
        have i1 : (0 : Int) ≤ (k : Int) := by omega
        have i2 : (k : Int) < (l.length : Int) := by omega
        have z1 : b < wr.heap.size := Nat.lt_of_lt_of_le hbs (unhide hb).size
        have z2 : b' < wr.heap.size := Nat.lt_of_lt_of_le hbs' (unhide hb).size
        generalize l.getD k E0 = x at *
        obtain ⟨s, m, q⟩ := x
        simp only at c0 c1 c2 d0 d1 d2
        go_wp2
        go_region_held3 (fun w2 => w2.cell? ⟨b, o + k * 3, none⟩ = some (.string s) ∧ w2.cell? ⟨b, o + k * 3 + 1, none⟩ = some (.string m) ∧ w2.cell? ⟨b, o + k * 3 + 2, none⟩ = some (.int .i64 q) ∧ w2.cell? ⟨b', o' + k * 3, none⟩ = some (.string s) ∧ w2.cell? ⟨b', o' + k * 3 + 1, none⟩ = some (.string m) ∧ w2.cell? ⟨b', o' + k * 3 + 2, none⟩ = some (.int .i64 q)) (go_keep) (first | (go_at_call 92; refine (eqEv s m q _).mono ?_; rintro e w1 ⟨rfl, hb1⟩; have q1 := hb1.cell (p := ⟨b, o + k * 3, none⟩) z1; have q2 := hb1.cell (p := ⟨b, o + k * 3 + 1, none⟩) z1; have q5 := hb1.cell (p := ⟨b, o + k * 3 + 2, none⟩) z1; have q3 := hb1.cell (p := ⟨b', o' + k * 3, none⟩) z2; have q4 := hb1.cell (p := ⟨b', o' + k * 3 + 1, none⟩) z2; have q6 := hb1.cell (p := ⟨b', o' + k * 3 + 2, none⟩) z2))
        have HB : Hid (Below w.heap.size w w1) := hide (below_trans (unhide hb) (below_of_drew hb1))
        clear hb1 hb q1 q2 q3 q4 q5 q6
        go_wp2
        exact ⟨⟨k + 1, by omega, by go_num, HB⟩, by simp [intOf]; omega⟩
      · go_wp2
        go_ret
        exact ⟨rfl, unhide hb⟩
end Go.Proofs.YtkdaljonmkfdaaaGreatDoor.Evs
end

section
/-
  A region that draws its order, walked once for all worlds of a class that the prover names (a guard in it may be false, a call in it may lay blocks).
-/
namespace Go.Proofs.YtkdaljonmkfdaaaGreatDoor.RegIn
open Go

/-- a world of the class S -/
structure In (S : World → Prop) where
  x : World
  h : S x

theorem wp_region_in {P : Program} {id : Nat} {Q : Exit → Act → World → Prop} {a : Act} {w : World} {l : List Oper} (S : World → Prop) (hm : P.follows .mixedOrders = true) (hB : Region.lexB .any l.toArray = true) (hS : S w.drew)
    (h : Nonempty (In S) → wpQuiet P l.toArray (fun w' => ∃ g : In S, w' = g.x) (fun a' => ∀ w', (∃ g : In S, w' = g.x) → Q .normal a' w') l a) : (Code.region id l.toArray true).wp P Q a w :=
  wp_region_quiet (C := fun w' => ∃ g : In S, w' = g.x) hm hB ⟨⟨_, hS⟩, rfl⟩ (by simpa using h ⟨⟨_, hS⟩⟩)

/-- a callee's contract, in a world of the class -/
theorem call_in {P : Program} {f : FuncId} {args : Array Value} {S : World → Prop} {v : Value} (g : In S) (h : Calls P f args g.x fun e w' => e = .returned v ∧ S w') : Calls P f args g.x fun e w'' => e = .returned v ∧ ∃ g' : In S, w'' = g'.x :=
  h.mono fun _ w' ⟨he, hs⟩ => ⟨he, ⟨w', hs⟩, rfl⟩
end Go.Proofs.YtkdaljonmkfdaaaGreatDoor.RegIn
end

section
/-
  The laws' own helpers on slices of events: markText, markUseEventS, heldUseEventS.
-/
namespace Go.Proofs.YtkdaljonmkfdaaaGreatDoor.Evs
set_option linter.unusedVariables false
open Go.RowKit RegIn

/-- a string of one byte -/
theorem conv1 (w : World) (c : Int) (h0 : 0 ≤ c) (h1 : c ≤ 255) : (convert 163 9 (.slice (some ⟨w.heap.size, 0, none⟩) 1 1)).run Tryz.prog (w.alloc (.cells #[.int .u8 c] 5)) = .ok (.string ⟨#[UInt8.ofNat c.toNat]⟩) (w.alloc (.cells #[.int .u8 c] 5)) := by
  have h := run_convert_bytes_back (P := Tryz.prog) (w.alloc (.cells #[.int .u8 c] 5)) 163 9 5 ⟨w.heap.size, 0, none⟩ 1 [UInt8.ofNat c.toNat] Tryz.underlying163 Tryz.underlying5 Tryz.underlying9 ?_
  · exact h
  · intro j hj
    obtain rfl : j = 0 := by simpa using hj
    have e : ((UInt8.ofNat c.toNat).toNat : Int) = c := by
      simp; omega
    rw [Addr.add_lit]
    show (w.alloc _).cell? _ = some (.int .u8 ((UInt8.ofNat c.toNat).toNat : Int))
    rw [e]
    have e1 := (MapKept.heap_alloc w (.cells #[.int .u8 c] 5)).1
    simp only [World.cell?]
    rw [e1]; rfl
theorem cat (a b : List UInt8) : ((⟨a.toArray⟩ : ByteArray) ++ ⟨b.toArray⟩) = ⟨(a ++ b).toArray⟩ := by
  apply ByteArray.ext; simp
theorem digit (k : Nat) : 48 + UInt8.ofNat k = UInt8.ofNat (48 + k) := by rw [UInt8.ofNat_add]; rfl

/-- the digits of a number, none of nought -/
def digs : Nat → List UInt8
  | 0 => []
  | k + 1 => digs ((k + 1) / 10) ++ [UInt8.ofNat (48 + (k + 1) % 10)]
termination_by k => k
decreasing_by omega
theorem digs_pos {k : Nat} (h : 0 < k) : digs k = digs (k / 10) ++ [UInt8.ofNat (48 + k % 10)] := by
  cases k with
  | zero => omega
  | succ k => rw [digs]
theorem digs_zero : digs 0 = [] := by rw [digs]
/-- the text that marks -/
def mt (k : Nat) : ByteArray := ⟨(109 :: digs k).toArray⟩

set_option maxHeartbeats 800000 in
/-- markText -/
theorem markT (n : Nat) (w : World) (h1 : 1 ≤ n) (hn : n ≤ 1000000000) : Calls Tryz.prog 71 #[.int .i64 (n : Int)] w fun e w' => e = .returned (.string (mt n)) ∧ Below w.heap.size w w' := by
  generalize hr : mt n = r
  have HR := hide hr
  clear hr
  have y1 : (0 : Int) < (n : Int) := by omega
  go_enter Tryz.func71, Tryz.ntmps71
  go_wp2
  go_loopw [0, 3] (fun t0 t3 wr => ∃ (m : Nat) (out : List UInt8), m ≤ n ∧ t0 = .int .i64 m ∧ t3 = .string ⟨out.toArray⟩ ∧ Hid (digs n = digs m ++ out) ∧ out.length + m ≤ n ∧ Below w.heap.size w wr) (fun t0 _ _ => (intOf t0).toNat)
  case atStart => exact ⟨n, [], Nat.le_refl _, rfl, rfl, by show _ = _; simp, by simp, Below.refl _ _⟩
  case round =>
    obtain ⟨m, out, hm, rfl, rfl, hd, hl, hb⟩ := hrel
    have hl2 : 1 + out.length ≤ 9223372036854775807 := by omega
    by_cases h0 : 0 < m
    · have hcv := conv1 wr (48 + (m : Int) % 10) (by omega) (by omega)
      have y2 : (0 : Int) < (m : Int) := by omega
      go_wp2
      refine ⟨⟨m / 10, UInt8.ofNat (48 + m % 10) :: out, by omega, by go_num, ?_, ?_, by simp; omega, hb.alloc hb.size _⟩, by simp [intOf]; omega⟩
      · have := cat [48 + UInt8.ofNat (m % 10)] out
        rw [digit] at this ⊢
        exact congrArg Value.string this
      · show _ = _
        rw [unhide hd, digs_pos h0]; simp
    · obtain rfl : m = 0 := by omega
      have hout : digs n = out := by rw [unhide hd, digs_zero]; rfl
      go_wp2
      go_ret
      refine ⟨?_, hb⟩
      rw [← unhide HR, mt, hout]
      exact congrArg (fun x => Ending.returned (.string x)) (cat [109] out)

theorem EOwn.setA {W : World} {b : Nat} {l : List E} (h : EOwn W b l) {k : Nat} (hk : k < l.length) (s : ByteArray) :
    EOwn (W.setCell ⟨b, k * 3, none⟩ (.string s)) b (l.set k (s, (l.getD k E0).2.1, (l.getD k E0).2.2)) := by
  refine ⟨⟨by simpa using h.1.1, fun i hi => ?_⟩, fun j => by simpa [World.frozen?_setCell] using h.2 j⟩
  have hi' : i < l.length := by simpa using hi
  obtain ⟨c0, c1, c2⟩ := h.1.2 i hi'
  rw [Nat.zero_add] at c0 c1 c2 ⊢
  have d1 : (⟨b, k * 3, none⟩ : Addr) ≠ ⟨b, i * 3 + 1, none⟩ := fun he => by simp only [Addr.mk.injEq, and_true, true_and] at he; omega
  have d2 : (⟨b, k * 3, none⟩ : Addr) ≠ ⟨b, i * 3 + 2, none⟩ := fun he => by simp only [Addr.mk.injEq, and_true, true_and] at he; omega
  by_cases e : i = k
  · subst e
    rw [List.getD_eq_getElem?_getD, List.getElem?_set_self hi']
    exact ⟨World.cell?_setCell_same _ _ _ c0, by rw [World.cell?_setCell_other _ _ _ _ d1]; exact c1, by rw [World.cell?_setCell_other _ _ _ _ d2]; exact c2⟩
  · have d0 : (⟨b, k * 3, none⟩ : Addr) ≠ ⟨b, i * 3, none⟩ := fun he => by simp only [Addr.mk.injEq, and_true, true_and] at he; omega
    rw [World.cell?_setCell_other _ _ _ _ d0, World.cell?_setCell_other _ _ _ _ d1, World.cell?_setCell_other _ _ _ _ d2, c0, c1, c2, List.getD_eq_getElem?_getD, List.getD_eq_getElem?_getD, List.getElem?_set_ne (by omega)]
    exact ⟨rfl, rfl, rfl⟩
theorem EOwn.setB {W : World} {b : Nat} {l : List E} (h : EOwn W b l) {k : Nat} (hk : k < l.length) (s : ByteArray) :
    EOwn (W.setCell ⟨b, k * 3 + 1, none⟩ (.string s)) b (l.set k ((l.getD k E0).1, s, (l.getD k E0).2.2)) := by
  refine ⟨⟨by simpa using h.1.1, fun i hi => ?_⟩, fun j => by simpa [World.frozen?_setCell] using h.2 j⟩
  have hi' : i < l.length := by simpa using hi
  obtain ⟨c0, c1, c2⟩ := h.1.2 i hi'
  rw [Nat.zero_add] at c0 c1 c2 ⊢
  have d0 : (⟨b, k * 3 + 1, none⟩ : Addr) ≠ ⟨b, i * 3, none⟩ := fun he => by simp only [Addr.mk.injEq, and_true, true_and] at he; omega
  have d2 : (⟨b, k * 3 + 1, none⟩ : Addr) ≠ ⟨b, i * 3 + 2, none⟩ := fun he => by simp only [Addr.mk.injEq, and_true, true_and] at he; omega
  by_cases e : i = k
  · subst e
    rw [List.getD_eq_getElem?_getD, List.getElem?_set_self hi']
    exact ⟨by rw [World.cell?_setCell_other _ _ _ _ d0]; exact c0, World.cell?_setCell_same _ _ _ c1, by rw [World.cell?_setCell_other _ _ _ _ d2]; exact c2⟩
  · have d1 : (⟨b, k * 3 + 1, none⟩ : Addr) ≠ ⟨b, i * 3 + 1, none⟩ := fun he => by simp only [Addr.mk.injEq, and_true, true_and] at he; omega
    rw [World.cell?_setCell_other _ _ _ _ d0, World.cell?_setCell_other _ _ _ _ d1, World.cell?_setCell_other _ _ _ _ d2, c0, c1, c2, List.getD_eq_getElem?_getD, List.getD_eq_getElem?_getD, List.getElem?_set_ne (by omega)]
    exact ⟨rfl, rfl, rfl⟩
theorem EOwn.setQ {W : World} {b : Nat} {l : List E} (h : EOwn W b l) {k : Nat} (hk : k < l.length) (q : Int) :
    EOwn (W.setCell ⟨b, k * 3 + 2, none⟩ (.int .i64 q)) b (l.set k ((l.getD k E0).1, (l.getD k E0).2.1, q)) := by
  refine ⟨⟨by simpa using h.1.1, fun i hi => ?_⟩, fun j => by simpa [World.frozen?_setCell] using h.2 j⟩
  have hi' : i < l.length := by simpa using hi
  obtain ⟨c0, c1, c2⟩ := h.1.2 i hi'
  rw [Nat.zero_add] at c0 c1 c2 ⊢
  have d0 : (⟨b, k * 3 + 2, none⟩ : Addr) ≠ ⟨b, i * 3, none⟩ := fun he => by simp only [Addr.mk.injEq, and_true, true_and] at he; omega
  have d1 : (⟨b, k * 3 + 2, none⟩ : Addr) ≠ ⟨b, i * 3 + 1, none⟩ := fun he => by simp only [Addr.mk.injEq, and_true, true_and] at he; omega
  by_cases e : i = k
  · subst e
    rw [List.getD_eq_getElem?_getD, List.getElem?_set_self hi']
    exact ⟨by rw [World.cell?_setCell_other _ _ _ _ d0]; exact c0, by rw [World.cell?_setCell_other _ _ _ _ d1]; exact c1, World.cell?_setCell_same _ _ _ c2⟩
  · have d2 : (⟨b, k * 3 + 2, none⟩ : Addr) ≠ ⟨b, i * 3 + 2, none⟩ := fun he => by simp only [Addr.mk.injEq, and_true, true_and] at he; omega
    rw [World.cell?_setCell_other _ _ _ _ d0, World.cell?_setCell_other _ _ _ _ d1, World.cell?_setCell_other _ _ _ _ d2, c0, c1, c2, List.getD_eq_getElem?_getD, List.getD_eq_getElem?_getD, List.getElem?_set_ne (by omega)]
    exact ⟨rfl, rfl, rfl⟩

/-- the marks of a row -/
def marksE (k n : Nat) : List E := (List.range n).map fun i => (mt (k + 3 * i), mt (k + 3 * i + 1), ((k + 3 * i + 2 : Nat) : Int))
theorem marksE_len (k n : Nat) : (marksE k n).length = n := by simp [marksE]
theorem marksE_step (k : Nat) (l : List E) (j : Nat) (h : j < l.length) : (marksE k j ++ l.drop j).set j (mt (k + 3 * j), mt (k + 3 * j + 1), ((k + 3 * j + 2 : Nat) : Int)) = marksE k (j + 1) ++ l.drop (j + 1) := by
  rw [List.set_append_right _ _ (by rw [marksE_len]; exact Nat.le_refl _), marksE_len, Nat.sub_self, List.drop_eq_getElem_cons h, List.set_cons_zero]
  have e : marksE k (j + 1) = marksE k j ++ [(mt (k + 3 * j), mt (k + 3 * j + 1), ((k + 3 * j + 2 : Nat) : Int))] := by
    unfold marksE
    rw [List.range_succ, List.map_append]
    rfl
  rw [e, List.append_assoc]
  rfl
theorem grow0 (w : World) (r : Option Nat) : w.grownBy w r := World.grownBy.refl _ _
theorem growB {a b : World} (h : Below a.heap.size a b) (r : Option Nat) : a.grownBy b r := ⟨h.os, h.tape, h.output, h.size, fun j hj _ => h.block j hj⟩
theorem growT {a b c : World} {r : Option Nat} (h : a.grownBy b r) (k : b.grownBy c r) : a.grownBy c r :=
  ⟨k.os.trans h.os, k.tape.trans h.tape, k.output.trans h.output, Nat.le_trans h.size k.size, fun j hj hne => (k.block j (Nat.lt_of_lt_of_le hj h.size) hne).trans (h.block j hj hne)⟩
theorem growS (w : World) (b o : Nat) (u : Value) : w.grownBy (w.setCell ⟨b, o, none⟩ u) (some b) := by
  refine ⟨rfl, rfl, rfl, ?_, ?_⟩
  · simp
  · intro j hj hne
    exact Below.heap_setCell w ⟨b, o, none⟩ u j (fun e => hne (by rw [e]))

theorem getD_set {L : List E} {j : Nat} (h : j < L.length) (y : E) : (L.set j y).getD j E0 = y := by simp [List.getD, h]

theorem marksE_at {k n j : Nat} (h : j < n) : (marksE k n).getD j E0 = (mt (k + 3 * j), mt (k + 3 * j + 1), ((k + 3 * j + 2 : Nat) : Int)) := by simp [marksE, List.getD, h]

end Go.Proofs.YtkdaljonmkfdaaaGreatDoor.Evs
end

section
/-
  Expressions whose memory is the call's own: every list in a block of its own.
-/
namespace Go.Proofs.YtkdaljonmkfdaaaGreatDoor.Rule
set_option linter.unusedVariables false
open Go.RowKit
open Tiers (T T0)

theorem frozen_of_block {W W' : World} {b j : Nat} (h : W'.heap[b]? = W.heap[b]?) : W'.frozen? ⟨b, j, none⟩ = W.frozen? ⟨b, j, none⟩ := by
  simp only [World.frozen?, h]
/-- steps in a block of their own, from lo on and below hi -/
def OT (lo hi : Nat) (W : World) (v : Value) (l : List T) : Prop :=
  lo ≤ hi ∧ ((l = [] ∧ ∃ a c, v = .slice a 0 c) ∨ ∃ b cap, v = .slice (some ⟨b, 0, none⟩) l.length cap ∧ lo ≤ b ∧ b < hi ∧ (∀ i, i < l.length → W.cell? ⟨b, i * 2, none⟩ = some (.int .i64 (l.getD i T0).1) ∧ W.cell? ⟨b, i * 2 + 1, none⟩ = some (.int .i64 (l.getD i T0).2)) ∧ ∀ j, W.frozen? ⟨b, j, none⟩ = false)
/-- things one behind the other -/
def Chain (R : Nat → Nat → X → Prop) : Nat → Nat → List X → Prop
  | s, e, [] => s ≤ e
  | s, e, x :: xs => ∃ m, s ≤ m ∧ m ≤ e ∧ R s m x ∧ Chain R m e xs
/-- a row of expressions in a block -/
def RowX (W : World) (b : Nat) (xs : List X) : Prop := (∀ i x, xs[i]? = some x → ∀ j u, (cells5 x)[j]? = some u → W.cell? ⟨b, i * 5 + j, none⟩ = some u) ∧ ∀ j, W.frozen? ⟨b, j, none⟩ = false
/-- a slice of expressions of its own, d deep at most, from lo on and below hi -/
def OS (W : World) : Nat → Nat → Nat → Value → List Ex → Prop
  | 0, lo, hi, v, l => lo ≤ hi ∧ l = [] ∧ ∃ a c, v = .slice a 0 c
  | d + 1, lo, hi, v, l => lo ≤ hi ∧ ((l = [] ∧ ∃ a c, v = .slice a 0 c) ∨ ∃ b cap xs, v = .slice (some ⟨b, 0, none⟩) l.length cap ∧ l = xs.map (·.1) ∧ l.length ≤ 1000 ∧ lo ≤ b ∧ b < hi ∧ RowX W b xs ∧
      Chain (fun s e x => (x.1.meter.size ≤ maxLen ∧ x.1.tiers.length ≤ maxLen) ∧ ∃ q, OS W d s q x.2.1 x.1.kids ∧ OT q e W x.2.2 x.1.tiers) (b + 1) hi xs)
def OX (W : World) (d s e : Nat) (x : X) : Prop := (x.1.meter.size ≤ maxLen ∧ x.1.tiers.length ≤ maxLen) ∧ ∃ q, OS W d s q x.2.1 x.1.kids ∧ OT q e W x.2.2 x.1.tiers
theorem OS_succ {W : World} {d lo hi : Nat} {v : Value} {l : List Ex} : OS W (d + 1) lo hi v l ↔ lo ≤ hi ∧ ((l = [] ∧ ∃ a c, v = .slice a 0 c) ∨ ∃ b cap xs, v = .slice (some ⟨b, 0, none⟩) l.length cap ∧ l = xs.map (·.1) ∧ l.length ≤ 1000 ∧ lo ≤ b ∧ b < hi ∧ RowX W b xs ∧ Chain (OX W d) (b + 1) hi xs) := Iff.rfl

theorem OT.le {lo hi : Nat} {W : World} {v : Value} {l : List T} (h : OT lo hi W v l) : lo ≤ hi := h.1
theorem OS.le {W : World} : ∀ {d lo hi : Nat} {v : Value} {l : List Ex}, OS W d lo hi v l → lo ≤ hi
  | 0, _, _, _, _, h => h.1
  | d + 1, _, _, _, _, h => h.1
theorem OX.le {W : World} {d s e : Nat} {x : X} (h : OX W d s e x) : s ≤ e := by
  obtain ⟨_, q, h1, h2⟩ := h
  exact Nat.le_trans h1.le h2.le
theorem Chain.le {R : Nat → Nat → X → Prop} : ∀ {xs : List X} {s e : Nat}, Chain R s e xs → s ≤ e
  | [], _, _, h => h
  | x :: xs, _, _, ⟨m, h1, h2, _⟩ => Nat.le_trans h1 h2
theorem Chain.imp {R R' : Nat → Nat → X → Prop} {lo hi : Nat} (h : ∀ s e x, lo ≤ s → e ≤ hi → R s e x → R' s e x) : ∀ {xs : List X} {s e : Nat}, Chain R s e xs → lo ≤ s → e ≤ hi → Chain R' s e xs
  | [], _, _, k, _, _ => k
  | x :: xs, s, e, ⟨m, h1, h2, h3, h4⟩, k1, k2 => ⟨m, h1, h2, h s m x k1 (Nat.le_trans h2 k2) h3, Chain.imp h h4 (Nat.le_trans k1 h1) k2⟩
theorem Chain.append {R : Nat → Nat → X → Prop} : ∀ {xs ys : List X} {s m e : Nat}, Chain R s m xs → Chain R m e ys → (∀ s s' e x, s' ≤ s → R s e x → R s' e x) → Chain R s e (xs ++ ys)
  | [], [], s, m, e, h1, h2, _ => Nat.le_trans h1 h2
  | [], y :: ys, s, m, e, h1, ⟨p, k1, k2, k3, k4⟩, hR => ⟨p, Nat.le_trans h1 k1, k2, hR m s p y h1 k3, k4⟩
  | x :: xs, ys, s, m, e, ⟨p, k1, k2, k3, k4⟩, h2, hR => ⟨p, k1, Nat.le_trans k2 h2.le, k3, k4.append h2 hR⟩
theorem Chain.split {R : Nat → Nat → X → Prop} : ∀ {xs ys : List X} {s e : Nat}, Chain R s e (xs ++ ys) → ∃ m, s ≤ m ∧ m ≤ e ∧ Chain R s m xs ∧ Chain R m e ys
  | [], ys, s, e, h => ⟨s, Nat.le_refl _, h.le, Nat.le_refl _, h⟩
  | x :: xs, ys, s, e, ⟨p, k1, k2, k3, k4⟩ => by
    obtain ⟨m, a1, a2, a3, a4⟩ := Chain.split (xs := xs) k4
    exact ⟨m, Nat.le_trans k1 a1, a2, ⟨p, k1, a1, k3, a3⟩, a4⟩

theorem OT.kept {lo hi : Nat} {W W' : World} {v : Value} {l : List T} (h : OT lo hi W v l) (hs : Same lo hi W W') : OT lo hi W' v l := by
  obtain ⟨h0, h | ⟨b, cap, rfl, h1, h2, h3, h4⟩⟩ := h
  · exact ⟨h0, .inl h⟩
  · have hb := hs b h1 h2
    exact ⟨h0, .inr ⟨b, cap, rfl, h1, h2, fun i hi => ⟨(World.cell?_of_block (w := W) hb).trans (h3 i hi).1, (World.cell?_of_block (w := W) hb).trans (h3 i hi).2⟩, fun j => (frozen_of_block hb).trans (h4 j)⟩⟩
theorem OT.mono {lo hi lo' hi' : Nat} {W : World} {v : Value} {l : List T} (h : OT lo hi W v l) (h1 : lo' ≤ lo) (h2 : hi ≤ hi') : OT lo' hi' W v l := by
  obtain ⟨h0, h | ⟨b, cap, rfl, k1, k2, h3⟩⟩ := h
  · exact ⟨by omega, .inl h⟩
  · exact ⟨by omega, .inr ⟨b, cap, rfl, by omega, by omega, h3⟩⟩
theorem OT.tl {lo hi : Nat} {W : World} {v : Value} {l : List T} (h : OT lo hi W v l) : TL lo hi W v l := by
  obtain ⟨h0, h | ⟨b, cap, rfl, h1, h2, h3, h4⟩⟩ := h
  · exact .inl h
  · exact .inr ⟨b, 0, cap, rfl, h1, h2, fun i hi => by rw [Nat.zero_add]; exact h3 i hi⟩
theorem RowX.kept {W W' : World} {b : Nat} {xs : List X} (h : RowX W b xs) (hb : W'.heap[b]? = W.heap[b]?) : RowX W' b xs :=
  ⟨fun i x hx j u hu => (World.cell?_of_block (w := W) hb).trans (h.1 i x hx j u hu), fun j => (frozen_of_block hb).trans (h.2 j)⟩
theorem OS.kept {W W' : World} : ∀ {d lo hi : Nat} {v : Value} {l : List Ex}, OS W d lo hi v l → Same lo hi W W' → OS W' d lo hi v l
  | 0, _, _, _, _, h, _ => h
  | d + 1, lo, hi, v, l, ⟨h0, h⟩, hs => by
    refine ⟨h0, ?_⟩
    rcases h with h | ⟨b, cap, xs, h1, h2, h3, h4, h5, h6, h7⟩
    · exact .inl h
    · refine .inr ⟨b, cap, xs, h1, h2, h3, h4, h5, h6.kept (hs b h4 h5), h7.imp (lo := b + 1) (hi := hi) (fun s e x ks ke ⟨hz, q, hq1, hq2⟩ => ⟨hz, q, hq1.kept (fun c c1 c2 => hs c (by omega) (by have := hq2.le; omega)), hq2.kept (fun c c1 c2 => hs c (by have := hq1.le; omega) (by omega))⟩) (Nat.le_refl _) (Nat.le_refl _)⟩
theorem OS.mono {W : World} : ∀ {d lo hi lo' hi' : Nat} {v : Value} {l : List Ex}, OS W d lo hi v l → lo' ≤ lo → hi ≤ hi' → OS W d lo' hi' v l
  | 0, _, _, _, _, _, _, h, k1, k2 => ⟨Nat.le_trans k1 (Nat.le_trans h.1 k2), h.2⟩
  | d + 1, lo, hi, lo', hi', v, l, ⟨h0, h⟩, k1, k2 => by
    refine ⟨by omega, ?_⟩
    rcases h with h | ⟨b, cap, xs, h1, h2, h3, h4, h5, h6, h7⟩
    · exact .inl h
    · refine .inr ⟨b, cap, xs, h1, h2, h3, by omega, by omega, h6, ?_⟩
      have h8 : Chain (OX W d) (b + 1) hi xs := h7
      have := h8.append (ys := []) (e := hi') k2 (fun s s' e x hs ⟨hz, q, hq1, hq2⟩ => ⟨hz, q, hq1.mono hs (Nat.le_refl _), hq2⟩)
      rw [List.append_nil] at this
      exact this
theorem OX.kept {W W' : World} {d s e : Nat} {x : X} (h : OX W d s e x) (hs : Same s e W W') : OX W' d s e x := by
  obtain ⟨hz, q, h1, h2⟩ := h
  have := h1.le; have := h2.le
  exact ⟨hz, q, h1.kept (fun c c1 c2 => hs c c1 (by omega)), h2.kept (fun c c1 c2 => hs c (by omega) c2)⟩
theorem OX.mono {W : World} {d s e s' e' : Nat} {x : X} (h : OX W d s e x) (h1 : s' ≤ s) (h2 : e ≤ e') : OX W d s' e' x := by
  obtain ⟨hz, q, k1, k2⟩ := h
  exact ⟨hz, q, k1.mono h1 (Nat.le_refl _), k2.mono (Nat.le_refl _) h2⟩
theorem OS.up {W : World} : ∀ {d lo hi : Nat} {v : Value} {l : List Ex}, OS W d lo hi v l → OS W (d + 1) lo hi v l
  | 0, _, _, _, _, h => ⟨h.1, .inl h.2⟩
  | d + 1, lo, hi, v, l, ⟨h0, h⟩ => by
    refine ⟨h0, ?_⟩
    rcases h with h | ⟨b, cap, xs, h1, h2, h3, h4, h5, h6, h7⟩
    · exact .inl h
    · exact .inr ⟨b, cap, xs, h1, h2, h3, h4, h5, h6, h7.imp (lo := b + 1) (hi := hi) (fun s e x ks ke ⟨hz, q, hq1, hq2⟩ => ⟨hz, q, hq1.up, hq2⟩) (Nat.le_refl _) (Nat.le_refl _)⟩
theorem OS.nil {W : World} {d lo hi : Nat} (a : Option Addr) (c : Nat) (h : lo ≤ hi) : OS W d lo hi (.slice a 0 c) [] := by
  cases d with
  | zero => exact ⟨h, rfl, _, _, rfl⟩
  | succ d => exact ⟨h, .inl ⟨rfl, _, _, rfl⟩⟩
theorem OT.nil {W : World} {lo hi : Nat} (a : Option Addr) (c : Nat) (h : lo ≤ hi) : OT lo hi W (.slice a 0 c) [] := ⟨h, .inl ⟨rfl, _, _, rfl⟩⟩
theorem Chain.mem {R : Nat → Nat → X → Prop} : ∀ {xs : List X} {s e : Nat}, Chain R s e xs → ∀ x ∈ xs, ∃ p q, s ≤ p ∧ q ≤ e ∧ R p q x
  | x :: xs, s, e, ⟨m, h1, h2, h3, h4⟩, y, hy => by
    rcases List.mem_cons.1 hy with rfl | h
    · exact ⟨s, m, Nat.le_refl _, h2, h3⟩
    · obtain ⟨p, q, a, b, c⟩ := h4.mem y h
      exact ⟨p, q, by omega, b, c⟩
theorem OS.es {W : World} : ∀ {d lo hi : Nat} {v : Value} {l : List Ex}, OS W d lo hi v l → ES lo hi W d v l
  | 0, _, _, _, _, h => h.2
  | d + 1, lo, hi, v, l, ⟨h0, h⟩ => by
    rcases h with h | ⟨b, cap, xs, rfl, rfl, h3, h4, h5, h6, h7⟩
    · exact .inl h
    · refine .inr ⟨b, 0, cap, rfl, by unfold maxLen; omega, h4, h5, fun i hi' => ?_⟩
      have hi2 : i < xs.length := by simpa using hi'
      have hx : xs[i]? = some xs[i] := List.getElem?_eq_getElem hi2
      have e : (xs.map (·.1)).getD i E0 = xs[i].1 := by simp [List.getD, hi2]
      rw [e]
      obtain ⟨p, q, a1, a2, hz, r, hq1, hq2⟩ := Chain.mem h7 xs[i] (List.getElem_mem _)
      have hc : ∀ j u, (cells5 xs[i])[j]? = some u → W.cell? ⟨b, 0 + i * 5 + j, none⟩ = some u := fun j u hu => by
        rw [Nat.zero_add]; exact h6.1 i _ hx j u hu
      have := hq1.le; have := hq2.le
      exact ⟨xs[i].2.1, xs[i].2.2, ⟨hc 0 _ rfl, hc 1 _ rfl, hc 2 _ rfl, hc 3 _ rfl, hc 4 _ rfl⟩, hz, (OS.es hq1).mono (by omega) (by omega), hq2.tl.mono (by omega) (by omega)⟩
theorem OX.ev {W : World} {d s e : Nat} {x : X} (h : OX W d s e x) : EV s e W d (.agg #[.int .i64 x.1.kind, .int .i64 x.1.num, .string x.1.meter, x.2.1, x.2.2]) x.1 := by
  obtain ⟨hz, q, h1, h2⟩ := h
  have := h1.le; have := h2.le
  exact ⟨x.2.1, x.2.2, rfl, hz, h1.es.mono (Nat.le_refl _) (by omega), h2.tl.mono (by omega) (Nat.le_refl _)⟩

/-! ### marks -/
/-- the marks of n steps -/
def marksT (k n : Nat) : List T := (List.range n).map fun i => (((k + 2 * i : Nat) : Int), ((k + 2 * i + 1 : Nat) : Int))
theorem marksT_len (k n : Nat) : (marksT k n).length = n := by simp [marksT]
theorem marksT_get {k n i : Nat} (h : i < n) : (marksT k n).getD i T0 = (((k + 2 * i : Nat) : Int), ((k + 2 * i + 1 : Nat) : Int)) := by simp [marksT, List.getD, h]
mutual
/-- an expression that was marked, from k on; k' is the next mark -/
def MkE : Nat → Ex → Nat → Prop
  | k, .mk kd n m ks ts, k' => kd = (k : Int) ∧ n = ((k + 1 : Nat) : Int) ∧ m = Evs.mt (k + 2) ∧ ∃ k1, MkL (k + 3) ks k1 ∧ ts = marksT k1 ts.length ∧ k' = k1 + 2 * ts.length
def MkL : Nat → List Ex → Nat → Prop
  | k, [], k' => k' = k
  | k, e :: es, k' => ∃ k1, MkE k e k1 ∧ MkL k1 es k'
end
theorem MkE_eq (k : Nat) (e : Ex) (k' : Nat) : MkE k e k' ↔ e.kind = (k : Int) ∧ e.num = ((k + 1 : Nat) : Int) ∧ e.meter = Evs.mt (k + 2) ∧ ∃ k1, MkL (k + 3) e.kids k1 ∧ e.tiers = marksT k1 e.tiers.length ∧ k' = k1 + 2 * e.tiers.length := by
  cases e; rw [MkE]; exact Iff.rfl
theorem MkL.snoc : ∀ {l : List Ex} {e : Ex} {k k1 k2 : Nat}, MkL k l k1 → MkE k1 e k2 → MkL k (l ++ [e]) k2
  | [], e, k, k1, k2, h, h' => by
    rw [MkL] at h
    subst h
    rw [List.nil_append, MkL]
    exact ⟨k2, h', by rw [MkL]⟩
  | a :: l, e, k, k1, k2, h, h' => by
    rw [MkL] at h
    obtain ⟨k3, h1, h2⟩ := h
    rw [List.cons_append, MkL]
    exact ⟨k3, h1, h2.snoc h'⟩
mutual
theorem MkE.le : ∀ {e : Ex} {k k' : Nat}, MkE k e k' → k + 3 ≤ k'
  | .mk kd n m ks ts, k, k', h => by
    rw [MkE] at h
    obtain ⟨_, _, _, k1, h1, _, rfl⟩ := h
    have := MkL.le h1
    omega
theorem MkL.le : ∀ {l : List Ex} {k k' : Nat}, MkL k l k' → k ≤ k'
  | [], k, k', h => by rw [MkL] at h; omega
  | e :: es, k, k', h => by
    rw [MkL] at h
    obtain ⟨k1, h1, h2⟩ := h
    have := MkE.le h1
    have := MkL.le h2
    omega
end
theorem MkL.split : ∀ {a b : List Ex} {k k' : Nat}, MkL k (a ++ b) k' → ∃ k1, MkL k a k1 ∧ MkL k1 b k'
  | [], b, k, k', h => ⟨k, by rw [MkL], h⟩
  | e :: a, b, k, k', h => by
    rw [List.cons_append, MkL] at h
    obtain ⟨k1, h1, h2⟩ := h
    obtain ⟨k2, h3, h4⟩ := MkL.split h2
    exact ⟨k2, by rw [MkL]; exact ⟨k1, h1, h3⟩, h4⟩
end Go.Proofs.YtkdaljonmkfdaaaGreatDoor.Rule
end
