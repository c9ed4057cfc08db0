/-
  Texts of this proof laid together, in build order; each says of itself what it holds.
-/
import Derived.Test.YtnchgeiinkaefaaGreatDoorZas
import Derived.Laws.OwnMore
import Derived.WalkSmall
import Derived.Deep.AppendLies
import Derived.Deep.RegionHeldLaw
import Derived.OwnWalk
import Derived.Deep.LoopGhost
import Derived.Deep.RegionHeld3
import Derived.Test.YtnchgeiinkaefaaGreatDoorZag
section
/-
  impl's run of a tariff: the list of those that have begun, in memory, and what is still to come.
-/
namespace Go.Proofs.YtnchgeiinkaefaaGreatDoor.Rule
set_option linter.unusedVariables false
open Go.RowKit Tiers
open Kinds hiding hide unhide below_trans ext_toList
open Coin (okB addV addB timesV fitB partV partB)
open Draw (grown_trans grown_none grown_of_below below_of)

/-- one that has begun -/
structure Fr where
  f : Ex
  ka : Option Addr
  kc : Nat
  ta : Option Addr
  tc : Nat
  vs : List Int
  vv : Value
/-- its cells -/
def Fr.cells (x : Fr) : List Value := [kindV x.f.kind, .int .i64 x.f.kind, .int .i64 x.f.num, .string x.f.meter, .slice x.ka x.f.kids.length x.kc, .slice x.ta x.f.tiers.length x.tc, x.vv]
/-- the innermost first; in memory it is the last -/
def flat7 : List Fr → List Value
  | [] => []
  | x :: st => flat7 st ++ x.cells
theorem flat7_len : ∀ st : List Fr, (flat7 st).length = st.length * 7
  | [] => rfl
  | x :: st => by rw [flat7, List.length_append, flat7_len st]; simp [Fr.cells]; omega

/-- what is still to come -/
def Cont (us : List Uses.U) : List Fr → Int → Nat → Nat → Int → Nat → Nat → Prop
  | [], v, c, l, rv, rc, rl => rc = c ∧ rl = l ∧ rv = if c = 0 then v else 0
  | x :: st, v, c, l, rv, rc, rl => x.vs.length ≤ 2 ∧ if c = 0 then okB v = true ∧ ∃ r c' l', Rest us x.f (x.vs ++ [v]) l r c' l' ∧ Cont us st r c' l' rv rc rl else rc = c ∧ rl = l ∧ rv = 0
theorem Cont.bad {us : List Uses.U} {st : List Fr} {v : Int} {c l : Nat} {rv : Int} {rc rl : Nat} (h : Cont us st v c l rv rc rl) (hc : ¬ c = 0) : rc = c ∧ rl = l ∧ rv = 0 := by
  cases st with
  | nil => obtain ⟨h1, h2, h3⟩ := h; rw [if_neg hc] at h3; exact ⟨h1, h2, h3⟩
  | cons x st => have := h.2; rw [if_neg hc] at this; exact this
/-- a kid is begun -/
theorem Cont.kid {us : List Uses.U} {x : Fr} {st : List Fr} {l i : Nat} {r : Int} {c l'' : Nat} {rv : Int} {rc rl : Nat} (h : Rest us x.f x.vs l r c l'') (k : Cont us st r c l'' rv rc rl) (hn : nextM x.f.kind x.vs = some i) (hv : x.vs.length ≤ 2) :
    ∃ v c' l', Ev us (x.f.kids.getD i E0) l v c' l' ∧ Cont us (x :: st) v c' l' rv rc rl := by
  rcases h.run hn with ⟨v, l', h1, h2, h3, h4⟩ | ⟨v, h1, h2, h3⟩
  · exact ⟨v, 0, l', h1, hv, by rw [if_pos rfl]; exact ⟨h2, r, c, l'', h4, k⟩⟩
  · exact ⟨v, c, l'', h1, hv, by rw [if_neg h2]; exact k.bad h2⟩
theorem next_len {k : Int} {vs : List Int} {i : Nat} (hk : 1 ≤ k ∧ k ≤ 10) (h : nextM k vs = some i) : vs.length ≤ 2 ∧ (i : Int) < kidsK k := by
  unfold nextM at h
  by_cases h9 : k = 9
  · subst h9
    rw [if_pos rfl] at h
    split at h
    · rename_i h0; cases h; exact ⟨by omega, by decide⟩
    split at h
    · rename_i h1
      split at h <;> cases h
      · exact ⟨by omega, by decide⟩
      · exact ⟨by omega, by decide⟩
    · cases h
  · rw [if_neg h9] at h
    split at h
    · rename_i h0
      cases h
      refine ⟨?_, h0⟩
      have : kidsK k ≤ 3 := by
        unfold kidsK
        split
        · omega
        split
        · omega
        split
        · omega
        omega
      omega
    · cases h

/-- each holds an expression that is right, and its values in a row of its own -/
structure FrOk (lo hi : Nat) (w0 W : World) (B : Nat) (x : Fr) : Prop where
  ev : ∃ d, EV lo hi w0 d (exV x.f x.ka x.kc x.ta x.tc) x.f
  all : allB x.f = true
  wt : wt x.f ≤ 1048576
  len : x.vs.length ≤ 3
  ok : ∀ v ∈ x.vs, okB v = true
  row : W.ownsRow B 3 1 x.vv x.vs.length (x.vs.map (Value.int .i64))
/-- the list g holds them all, in rows apart -/
structure Stk (lo hi : Nat) (w0 W : World) (B : Nat) (v : Value) (st : List Fr) : Prop where
  row : W.ownsRow B 207 7 v st.length (flat7 st)
  each : ∀ x ∈ st, FrOk lo hi w0 W B x
  apart : st.Pairwise fun x y => x.vv.ownBlock = none ∨ x.vv.ownBlock ≠ y.vv.ownBlock
  off : ∀ x ∈ st, x.vv.ownBlock = none ∨ x.vv.ownBlock ≠ v.ownBlock

theorem FrOk.kept {lo hi : Nat} {w0 W W' : World} {B : Nat} {x : Fr} {r : Option Nat} (h : FrOk lo hi w0 W B x) (hg : W.grownBy W' r) (hne : x.vv.ownBlock = none ∨ x.vv.ownBlock ≠ r) : FrOk lo hi w0 W' B x :=
  ⟨h.ev, h.all, h.wt, h.len, h.ok, h.row.kept hg hne⟩
theorem ne_none (v : Value) : v.ownBlock = none ∨ v.ownBlock ≠ (none : Option Nat) := by cases h : v.ownBlock <;> simp
theorem Stk.kept {lo hi : Nat} {w0 W W' : World} {B : Nat} {v : Value} {st : List Fr} (h : Stk lo hi w0 W B v st) (hb : Below W.heap.size W W') : Stk lo hi w0 W' B v st := by
  have hg := grown_of_below hb none
  exact ⟨h.row.kept hg (ne_none _), fun x hx => (h.each x hx).kept hg (ne_none _), h.apart, h.off⟩
theorem Stk.nil (lo hi : Nat) (w0 W : World) (B : Nat) : Stk lo hi w0 W B (.slice none 0 0) [] := ⟨World.ownsRow_nil _ _ _ _, by simp, by simp, by simp⟩
theorem FrOk.blockLt {lo hi : Nat} {w0 W : World} {B : Nat} {x : Fr} (h : FrOk lo hi w0 W B x) {k : Nat} (hk : x.vv.ownBlock = some k) : k < W.heap.size := (h.row.lt k hk).2

/-- one more begins -/
theorem Stk.push {lo hi : Nat} {w0 W W' : World} {B : Nat} {v : Value} {st : List Fr} {x : Fr} {g cap : Nat} (h : Stk lo hi w0 W B v st) (hx : ∃ d, EV lo hi w0 d (exV x.f x.ka x.kc x.ta x.tc) x.f) (ha : allB x.f = true) (hw : Rule.wt x.f ≤ 1048576) (hv : x.vv = .slice none 0 0) (hvs : x.vs = [])
    (hr : W'.ownsRow B 207 7 (.slice (some ⟨g, 0, none⟩) (st.length + 1) cap) (st.length + 1) (flat7 st ++ x.cells)) (hg : W.grownBy W' v.ownBlock) (hat : v.ownBlock = some g ∨ g = W.heap.size) :
    Stk lo hi w0 W' B (.slice (some ⟨g, 0, none⟩) (st.length + 1) cap) (x :: st) := by
  have hb : (x.vv).ownBlock = none := by rw [hv]; rfl
  refine ⟨hr, ?_, ?_, ?_⟩
  · intro y hy
    rcases List.mem_cons.1 hy with rfl | hy
    · exact ⟨hx, ha, hw, by rw [hvs]; simp, by rw [hvs]; simp, by rw [hv, hvs]; exact World.ownsRow_nil _ _ _ _⟩
    · exact (h.each y hy).kept hg (h.off y hy)
  · exact List.pairwise_cons.2 ⟨fun y _ => .inl hb, h.apart⟩
  · intro y hy
    rcases List.mem_cons.1 hy with rfl | hy
    · exact .inl hb
    · cases hbl : y.vv.ownBlock with
      | none => exact .inl rfl
      | some k =>
        right
        show some k ≠ some g
        rcases hat with hat | hat
        · have := h.off y hy
          rw [hbl] at this
          rcases this with h' | h'
          · cases h'
          · rw [hat] at h'; exact h'
        · have := (h.each y hy).blockLt hbl
          intro e; cases e; omega
/-- the innermost is done -/
theorem Stk.pop {lo hi : Nat} {w0 W : World} {B : Nat} {g n cap : Nat} {x : Fr} {st : List Fr} (h : Stk lo hi w0 W B (.slice (some ⟨g, 0, none⟩) n cap) (x :: st)) : Stk lo hi w0 W B (.slice (some ⟨g, 0, none⟩) st.length cap) st := by
  have hr := h.row
  have e : n = st.length + 1 := by
    rcases hr.2 with ⟨h', _⟩ | ⟨g', cap', cur, h', _⟩
    · cases h'
    · simp only [Value.slice.injEq] at h'; exact h'.2.1
  subst e
  exact ⟨ownsRow_pop (flat7_len st) hr, fun y hy => h.each y (List.mem_cons_of_mem _ hy), (List.pairwise_cons.1 h.apart).2, fun y hy => h.off y (List.mem_cons_of_mem _ hy)⟩
/-- the innermost has one more value -/
theorem Stk.value {lo hi : Nat} {w0 W W1 : World} {B : Nat} {g n cap : Nat} {x : Fr} {st : List Fr} {m : Int} {g' cap' : Nat} (h : Stk lo hi w0 W B (.slice (some ⟨g, 0, none⟩) n cap) (x :: st)) (hl : x.vs.length ≤ 2) (hm : okB m = true)
    (hr : W1.ownsRow B 3 1 (.slice (some ⟨g', 0, none⟩) (x.vs.length + 1) cap') (x.vs.length + 1) (x.vs.map (Value.int .i64) ++ [.int .i64 m])) (hg : W.grownBy W1 x.vv.ownBlock) (hat : x.vv.ownBlock = some g' ∨ g' = W.heap.size) :
    Stk lo hi w0 (W1.setCell ⟨g, st.length * 7 + 6, none⟩ (.slice (some ⟨g', 0, none⟩) (x.vs.length + 1) cap')) B (.slice (some ⟨g, 0, none⟩) n cap) ({ x with vs := x.vs ++ [m], vv := .slice (some ⟨g', 0, none⟩) (x.vs.length + 1) cap' } :: st) := by
  have hgv : x.vv.ownBlock = none ∨ x.vv.ownBlock ≠ some g := h.off x (List.mem_cons_self ..)
  have hgl : g < W.heap.size := (h.row.lt g rfl).2
  have hgg : some g ≠ x.vv.ownBlock := by
    rcases hgv with e | e
    · rw [e]; simp
    · exact fun e' => e e'.symm
  have hg' : some g' ≠ some g := by
    rcases hat with e | e
    · rw [← e]; exact hgg.symm
    · intro e'; cases e'; omega
  have hrow1 := h.row.kept hg (.inr hgg)
  have e : n = st.length + 1 := by
    rcases h.row.2 with ⟨h', _⟩ | ⟨_, _, _, h', _⟩
    · cases h'
    · simp only [Value.slice.injEq] at h'; exact h'.2.1
  subst e
  obtain ⟨hs, hgs⟩ := hrow1.stored (st.length * 7 + 6) (.slice (some ⟨g', 0, none⟩) (x.vs.length + 1) cap')
  refine ⟨?_, ?_, ?_, ?_⟩
  · have e2 : (flat7 (x :: st)).set (st.length * 7 + 6) (.slice (some ⟨g', 0, none⟩) (x.vs.length + 1) cap') = flat7 ({ x with vs := x.vs ++ [m], vv := .slice (some ⟨g', 0, none⟩) (x.vs.length + 1) cap' } :: st) := by
      rw [flat7, flat7, List.set_append_right _ _ (by rw [flat7_len]; omega), flat7_len]
      have : st.length * 7 + 6 - st.length * 7 = 6 := by omega
      rw [this]; rfl
    rw [e2] at hs
    exact hs
  · intro y hy
    rcases List.mem_cons.1 hy with rfl | hy
    · have hx := h.each x (List.mem_cons_self ..)
      refine ⟨hx.ev, hx.all, hx.wt, by simp; omega, fun v hv => ?_, ?_⟩
      · rcases List.mem_append.1 hv with hv | hv
        · exact hx.ok v hv
        · rw [List.mem_singleton.1 hv]; exact hm
      · have := hr.kept hgs (.inr (show some g' ≠ some g from hg'))
        simpa using this
    · have hy1 := h.each y (List.mem_cons_of_mem _ hy)
      have hp := (List.pairwise_cons.1 h.apart).1 y hy
      refine (hy1.kept hg ?_).kept hgs (h.off y (List.mem_cons_of_mem _ hy))
      cases hb : y.vv.ownBlock with
      | none => exact .inl rfl
      | some k =>
        right
        rcases hp with e | e
        · rw [e]; simp
        · rw [hb] at e; exact e.symm
  · refine List.pairwise_cons.2 ⟨fun y hy => ?_, (List.pairwise_cons.1 h.apart).2⟩
    right
    show some g' ≠ y.vv.ownBlock
    have hp := (List.pairwise_cons.1 h.apart).1 y hy
    cases hb : y.vv.ownBlock with
    | none => simp
    | some k =>
      rcases hat with e | e
      · rw [← e]
        rcases hp with h' | h'
        · rw [h'] at e; cases e
        · rw [hb] at h'; exact h'
      · have := (h.each y (List.mem_cons_of_mem _ hy)).blockLt hb
        intro e'; cases e'; omega
  · intro y hy
    rcases List.mem_cons.1 hy with rfl | hy
    · exact .inr hg'
    · exact h.off y (List.mem_cons_of_mem _ hy)
/-- what lies in memory of the innermost -/
theorem Stk.top {lo hi : Nat} {w0 W : World} {B : Nat} {g n cap : Nat} {x : Fr} {st : List Fr} (h : Stk lo hi w0 W B (.slice (some ⟨g, 0, none⟩) n cap) (x :: st)) :
    n = st.length + 1 ∧ W.cell? ⟨g, st.length * 7, none⟩ = some (kindV x.f.kind) ∧ W.cell? ⟨g, st.length * 7 + 1, none⟩ = some (.int .i64 x.f.kind) ∧ W.cell? ⟨g, st.length * 7 + 2, none⟩ = some (.int .i64 x.f.num) ∧ W.cell? ⟨g, st.length * 7 + 3, none⟩ = some (.string x.f.meter) ∧ W.cell? ⟨g, st.length * 7 + 4, none⟩ = some (.slice x.ka x.f.kids.length x.kc) ∧ W.cell? ⟨g, st.length * 7 + 5, none⟩ = some (.slice x.ta x.f.tiers.length x.tc) ∧ W.cell? ⟨g, st.length * 7 + 6, none⟩ = some x.vv ∧ W.frozen? ⟨g, st.length * 7 + 6, none⟩ = false := by
  have e : n = st.length + 1 := by
    rcases h.row.2 with ⟨h', _⟩ | ⟨_, _, _, h', _⟩
    · cases h'
    · simp only [Value.slice.injEq] at h'; exact h'.2.1
  subst e
  have hr := h.row
  have hc : ∀ j u, x.cells[j]? = some u → W.cell? ⟨g, st.length * 7 + j, none⟩ = some u := by
    intro j u hu
    have hj : j < 7 := by
      have := (List.getElem?_eq_some_iff.1 hu).1
      simpa [Fr.cells] using this
    have := hr.cellAt (st.length * 7 + j) (by omega)
    rw [this, flat7, List.getElem?_append_right (by rw [flat7_len]; omega), flat7_len]
    have e : st.length * 7 + j - st.length * 7 = j := by omega
    rw [e]; exact hu
  exact ⟨rfl, hc 0 _ rfl, hc 1 _ rfl, hc 2 _ rfl, hc 3 _ rfl, hc 4 _ rfl, hc 5 _ rfl, hc 6 _ rfl, hr.frozenAt _⟩
/-- the values of one, to be read -/
theorem FrOk.vr {lo hi : Nat} {w0 W : World} {B : Nat} {x : Fr} (h : FrOk lo hi w0 W B x) : VR W x.vv x.vs := by
  have hr := h.row
  rcases hr.2 with ⟨h1, h2⟩ | ⟨g, cap, cur, h1, hB, hgg, _⟩
  · left
    have : x.vs.length = 0 := h2
    exact ⟨List.eq_nil_of_length_eq_zero this, _, _, h1⟩
  · right
    have hlt := hr.lt g (by rw [h1]; rfl)
    refine ⟨g, 0, cap, h1, hlt.2, fun i hi => ?_⟩
    have := hr.cells (g := g) (by rw [h1]; rfl) i (.int .i64 (x.vs.getD i 0)) (by simp [List.getD, hi])
    rw [Addr.add_lit] at this
    exact this
end Go.Proofs.YtnchgeiinkaefaaGreatDoor.Rule
end

section
/-
  impl.runExpr.
-/
namespace Go.Proofs.YtnchgeiinkaefaaGreatDoor.Rule
set_option linter.unusedVariables false
open Go.RowKit Tiers
open Kinds hiding hide unhide below_trans ext_toList
open Coin (okB addV addB timesV fitB partV partB)
open Draw (grown_trans grown_none grown_of_below below_of)

theorem grown_ad (w : World) (o : Obj) (r : Option Nat) : w.grownBy (w.alloc o).drew r := by
  have h := World.grownBy_alloc w o r
  exact ⟨h.os, h.tape, h.output, h.size, h.block⟩

/-- the box E holds e, and may be written -/
structure EBox (W : World) (E : Nat) (e : Ex) (ka : Option Addr) (kc : Nat) (ta : Option Addr) (tc : Nat) : Prop where
  box : Box W E e ka kc ta tc
  free : ∀ j, W.frozen? ⟨E, j, none⟩ = false
theorem EBox.kept {W W' : World} {E : Nat} {e : Ex} {ka : Option Addr} {kc : Nat} {ta : Option Addr} {tc : Nat} {r : Option Nat} (h : EBox W E e ka kc ta tc) (hg : W.grownBy W' r) (hne : some E ≠ r) : EBox W' E e ka kc ta tc := by
  have hE := lt_of_cell h.box.1
  have hb := hg.block E hE hne
  exact ⟨h.box.same hb, fun j => (World.frozen?_of_block (w := W) hb).trans (h.free j)⟩
theorem EBox.new (w : World) (e : Ex) (ka : Option Addr) (kc : Nat) (ta : Option Addr) (tc : Nat) (t : TypeId) : EBox (w.alloc (.cells #[.int .i64 e.kind, .int .i64 e.num, .string e.meter, .slice ka e.kids.length kc, .slice ta e.tiers.length tc] t)) w.heap.size e ka kc ta tc := by
  refine ⟨Box.new w e ka kc ta tc t, fun j => ?_⟩
  simp only [World.frozen?, (MapKept.heap_alloc w _).1]
  simp

/-- an expression that is right, as it came in -/
structure In (lo hi : Nat) (w : World) (e : Ex) (ka : Option Addr) (kc : Nat) (ta : Option Addr) (tc : Nat) : Prop where
  ev : ∃ d, EV lo hi w d (exV e ka kc ta tc) e
  all : allB e = true
  wt : wt e ≤ 1048576
/-- at the head of the outer loop -/
structure OutR (us : List Uses.U) (lo hi : Nat) (w : World) (rv : Int) (rc rl : Nat) (g : Nat) (s9 : Value) (wr : World) (st : List Fr) (e : Ex) (ka : Option Addr) (kc : Nat) (ta : Option Addr) (tc : Nat) : Prop where
  stk : Stk lo hi w wr (w.heap.size + 1) s9 st
  box : EBox wr w.heap.size e ka kc ta tc
  isIn : In lo hi w e ka kc ta tc
  ev : ∃ v c l', Ev us e g v c l' ∧ Cont us st v c l' rv rc rl
  below : Below w.heap.size w wr
  deep : st.length + g ≤ 1000
/-- at the head of the inner loop -/
structure InR (us : List Uses.U) (lo hi : Nat) (w : World) (rv : Int) (rc rl : Nat) (left : Nat) (s9 : Value) (wr : World) (x : Fr) (st : List Fr) : Prop where
  stk : Stk lo hi w wr (w.heap.size + 1) s9 (x :: st)
  box : ∃ e ka kc ta tc, EBox wr w.heap.size e ka kc ta tc
  ev : ∃ v c l', Rest us x.f x.vs left v c l' ∧ Cont us st v c l' rv rc rl
  below : Below w.heap.size w wr
  deep : st.length + 1 + left ≤ 1000

theorem infoF : (Tryz.prog.info? 207).map (fun i => (i.zero, i.size, i.bytes)) = some (some (.agg #[.nilIface, .int .i64 0, .int .i64 0, .string ByteArray.empty, .slice none 0 0, .slice none 0 0, .slice none 0 0]), 7, 120) := by kernel_rfl

theorem kindOf' {k : Int} (hk : 1 ≤ k ∧ k ≤ 10) (w : World) : Calls Tryz.prog 119 #[.int .i64 k] w fun e w' => e = .returned (.iface (typeK k) (recK k)) ∧ w' = w := by
  rw [← kindV_in hk]; exact kindOf k w
/-- one that begins -/
abbrev fr0 (e : Ex) (ka : Option Addr) (kc : Nat) (ta : Option Addr) (tc : Nat) : Fr := ⟨e, ka, kc, ta, tc, [], .slice none 0 0⟩
theorem oneK (k : Int) : (kindV k).oneCell' = true := by unfold kindV; split <;> rfl

section
variable {ops : Array Oper} {o : Oper} {a : Act} {K : Act → World → Prop} {Q : Exit → Act → World → Prop} {E : Prop}
theorem stepApp7 (w : World) (hgd : o.guard = none) (s x : Operand) (ho : o.op = .call { callee := .builtin .append, args := #[s, x], argTypes := #[205, 205] })
    (B N n : Nat) (v : Value) (st : List Fr) (e : Ex) (ka : Option Addr) (kc : Nat) (ta : Option Addr) (tc : Nat) (hk : 1 ≤ e.kind ∧ e.kind ≤ 10) (hn : st.length = n) (hs : a.eval s = v) (hown : w.ownsRow B 207 7 v st.length (flat7 st)) (hx : a.eval x = .slice (some ⟨N, 0, none⟩) 1 1)
    (hN : w.heap[N]? = some (.cells #[.iface (typeK e.kind) (recK e.kind), .int .i64 e.kind, .int .i64 e.num, .string e.meter, .slice ka e.kids.length kc, .slice ta e.tiers.length tc, .slice none 0 0] 207 (0, 0)))
    (hl : st.length ≤ 1000) (hB : B ≤ w.heap.size)
    (h : ∀ g c w', w'.ownsRow B 207 7 (.slice (some ⟨g, 0, none⟩) (st.length + 1) c) (st.length + 1) (flat7 st ++ (fr0 e ka kc ta tc).cells) → w.grownBy w' v.ownBlock → (v.ownBlock = some g ∨ g = w.heap.size) → g < w'.heap.size → K (a.put o.dst (.slice (some ⟨g, 0, none⟩) (n + 1) c)) w') :
    if Region.wanted o (yielded ops a.tmps) = true then Oper.wp Tryz.prog o a w K Q else E := by
  subst hn
  obtain ⟨i, hi, h2⟩ := Option.map_eq_some_iff.1 infoF
  simp only [Prod.mk.injEq] at h2
  rw [← kindV_in hk] at hN
  exact step_append_lies (P := Tryz.prog) w hgd s x 205 ho B 207 i _ 7 120 Tryz.underlying205 hi h2.1 h2.2.1 h2.2.2 rfl (by omega) v st.length (flat7 st) hs hown ⟨N, 0, none⟩ 1 1 (fr0 e ka kc ta tc).cells hx rfl (World.news_of_block hN) (by
    intro u hu
    simp only [Fr.cells, List.mem_cons, List.not_mem_nil, or_false] at hu
    rcases hu with rfl | rfl | rfl | rfl | rfl | rfl | rfl
    · exact oneK _
    all_goals rfl) (by omega) (by unfold maxLen; omega) (by omega) hB _ rfl h
end

theorem new7 (w : World) (a b c d e f g : Value) (t : TypeId) : (w.alloc (.cells #[a, b, c, d, e, f, g] t)).cell? ⟨w.heap.size, 0, none⟩ = some a ∧ (w.alloc (.cells #[a, b, c, d, e, f, g] t)).cell? ⟨w.heap.size, 1, none⟩ = some b ∧ (w.alloc (.cells #[a, b, c, d, e, f, g] t)).cell? ⟨w.heap.size, 2, none⟩ = some c ∧
    (w.alloc (.cells #[a, b, c, d, e, f, g] t)).cell? ⟨w.heap.size, 3, none⟩ = some d ∧ (w.alloc (.cells #[a, b, c, d, e, f, g] t)).cell? ⟨w.heap.size, 4, none⟩ = some e ∧ (w.alloc (.cells #[a, b, c, d, e, f, g] t)).cell? ⟨w.heap.size, 5, none⟩ = some f ∧ (w.alloc (.cells #[a, b, c, d, e, f, g] t)).cell? ⟨w.heap.size, 6, none⟩ = some g := by
  have e1 := (MapKept.heap_alloc w (.cells #[a, b, c, d, e, f, g] t)).1
  simp only [World.cell?]
  rw [e1]
  simp
theorem EBox.set {W : World} {E : Nat} {e : Ex} {ka : Option Addr} {kc : Nat} {ta : Option Addr} {tc : Nat} (h : EBox W E e ka kc ta tc) (f : Ex) (ka' : Option Addr) (kc' : Nat) (ta' : Option Addr) (tc' : Nat) :
    EBox (((((W.setCell ⟨E, 0, none⟩ (.int .i64 f.kind)).setCell ⟨E, 1, none⟩ (.int .i64 f.num)).setCell ⟨E, 2, none⟩ (.string f.meter)).setCell ⟨E, 3, none⟩ (.slice ka' f.kids.length kc')).setCell ⟨E, 4, none⟩ (.slice ta' f.tiers.length tc')) E f ka' kc' ta' tc' := by
  obtain ⟨⟨b0, b1, b2, b3, b4⟩, hf⟩ := h
  refine ⟨⟨?_, ?_, ?_, ?_, ?_⟩, fun j => by simpa [World.frozen?_setCell] using hf j⟩
  · rw [World.cell?_setCell_other _ _ _ _ (by simp), World.cell?_setCell_other _ _ _ _ (by simp), World.cell?_setCell_other _ _ _ _ (by simp), World.cell?_setCell_other _ _ _ _ (by simp)]
    exact World.cell?_setCell_same _ _ _ b0
  · rw [World.cell?_setCell_other _ _ _ _ (by simp), World.cell?_setCell_other _ _ _ _ (by simp), World.cell?_setCell_other _ _ _ _ (by simp)]
    exact World.cell?_setCell_same _ _ _ (by rw [World.cell?_setCell_other _ _ _ _ (by simp)]; exact b1)
  · rw [World.cell?_setCell_other _ _ _ _ (by simp), World.cell?_setCell_other _ _ _ _ (by simp)]
    exact World.cell?_setCell_same _ _ _ (by rw [World.cell?_setCell_other _ _ _ _ (by simp), World.cell?_setCell_other _ _ _ _ (by simp)]; exact b2)
  · rw [World.cell?_setCell_other _ _ _ _ (by simp)]
    exact World.cell?_setCell_same _ _ _ (by rw [World.cell?_setCell_other _ _ _ _ (by simp), World.cell?_setCell_other _ _ _ _ (by simp), World.cell?_setCell_other _ _ _ _ (by simp)]; exact b3)
  · exact World.cell?_setCell_same _ _ _ (by rw [World.cell?_setCell_other _ _ _ _ (by simp), World.cell?_setCell_other _ _ _ _ (by simp), World.cell?_setCell_other _ _ _ _ (by simp), World.cell?_setCell_other _ _ _ _ (by simp)]; exact b4)
theorem grown_set5 (W : World) (E : Nat) (a b c d e : Value) : W.grownBy (((((W.setCell ⟨E, 0, none⟩ a).setCell ⟨E, 1, none⟩ b).setCell ⟨E, 2, none⟩ c).setCell ⟨E, 3, none⟩ d).setCell ⟨E, 4, none⟩ e) (some E) :=
  grown_trans (grown_trans (grown_trans (grown_trans (grown_set _ _ _ _) (grown_set _ _ _ _)) (grown_set _ _ _ _)) (grown_set _ _ _ _)) (grown_set _ _ _ _)
theorem Stk.keptE {lo hi : Nat} {w0 W W' : World} {B E : Nat} {v : Value} {st : List Fr} (h : Stk lo hi w0 W B v st) (hg : W.grownBy W' (some E)) (hE : E < B) : Stk lo hi w0 W' B v st := by
  have hne : ∀ {e : TypeId} {size : Nat} {u : Value} {n : Nat} {xs : List Value}, W.ownsRow B e size u n xs → u.ownBlock = none ∨ u.ownBlock ≠ some E := fun hr => by
    right; intro e; have := (hr.lt E e).1; omega
  exact ⟨h.row.kept hg (hne h.row), fun x hx => (h.each x hx).kept hg (hne (h.each x hx).row), h.apart, h.off⟩
/-- a kid of one that has begun -/
theorem In.kid {lo hi : Nat} {w : World} {f : Ex} {ka : Option Addr} {kc : Nat} {ta : Option Addr} {tc : Nat} (h : In lo hi w f ka kc ta tc) {p : Nat} (hp : p < f.kids.length) :
    ∃ b o ka' kc' ta' tc', ka = some ⟨b, o, none⟩ ∧ b < hi ∧ KidC w b (o + p * 5) (f.kids.getD p E0) ka' kc' ta' tc' ∧ In lo hi w (f.kids.getD p E0) ka' kc' ta' tc' := by
  obtain ⟨d, kv, tv, heq, hz, hk, ht⟩ := h.ev
  simp only [Value.agg.injEq, Array.mk.injEq, List.cons.injEq, and_true, true_and] at heq
  obtain ⟨rfl, rfl⟩ := heq
  cases d with
  | zero => obtain ⟨h0, _⟩ := hk; rw [h0] at hp; simp at hp
  | succ d =>
    rcases hk with ⟨h0, _⟩ | ⟨b, o, cap, hs, hl, h1, h2, hc⟩
    · rw [h0] at hp; simp at hp
    · simp only [Value.slice.injEq, true_and] at hs
      obtain ⟨ka', kc', ta', tc', hc1, hE⟩ := kidEV hc p hp
      exact ⟨b, o, ka', kc', ta', tc', hs.1, h2, hc1, ⟨d, hE⟩, all_kid h.all hp, wt_kid hp h.wt⟩

section
variable {ops : Array Oper} {o : Oper} {a : Act} {Q : Exit → Act → World → Prop}
theorem infoI : (Tryz.prog.info? 3).map (fun i => (i.zero, i.size, i.bytes)) = some (some (.int .i64 0), 1, 8) := by kernel_rfl
theorem listApp1 (w : World) {rest : List Oper} (hgd : o.guard = none) (s x : Operand) (ho : o.op = .call { callee := .builtin .append, args := #[s, x], argTypes := #[91, 91] })
    (B N : Nat) (v : Value) (vs : List Int) (q : Int) (hs : a.eval s = v) (hown : w.ownsRow B 3 1 v vs.length (vs.map (Value.int .i64))) (hx : a.eval x = .slice (some ⟨N, 0, none⟩) 1 1) (hN : w.heap[N]? = some (.cells #[.int .i64 q] 3 (0, 0)))
    (hl : vs.length ≤ 3) (hB : B ≤ w.heap.size)
    (h : ∀ g c w', w'.ownsRow B 3 1 (.slice (some ⟨g, 0, none⟩) (vs.length + 1) c) (vs.length + 1) (vs.map (Value.int .i64) ++ [.int .i64 q]) → w.grownBy w' v.ownBlock → (v.ownBlock = some g ∨ g = w.heap.size) → g < w'.heap.size → wpList Tryz.prog ops Q rest (a.put o.dst (.slice (some ⟨g, 0, none⟩) (vs.length + 1) c)) w') :
    wpList Tryz.prog ops Q (o :: rest) a w := by
  obtain ⟨i, hi, h2⟩ := Option.map_eq_some_iff.1 infoI
  simp only [Prod.mk.injEq] at h2
  exact wpList_append_lies (P := Tryz.prog) w hgd s x 91 ho B 3 i (.int .i64 0) 1 8 Tryz.underlying91 hi h2.1 h2.2.1 h2.2.2 rfl (by omega) v vs.length _ hs hown ⟨N, 0, none⟩ 1 1 [.int .i64 q] hx rfl (World.news_of_block hN) (by simp [Value.oneCell']) (by omega) (by unfold maxLen; omega) (by omega) hB _ rfl h
end

set_option maxHeartbeats 3200000 in
set_option maxRecDepth 100000 in
theorem runI_expr (us : List Uses.U) (hul : us.length ≤ 1048576) (lo hi : Nat) (uv : Value) (e : Ex) (ka : Option Addr) (kc : Nat) (ta : Option Addr) (tc : Nat) (F : Nat) (hF : F ≤ 1000) (w : World) (hI : In lo hi w e ka kc ta tc) (hhi : hi ≤ w.heap.size) (hU : Uses.UR w uv us) (n' : Int) (c' l' : Nat) (hev : Ev us e F n' c' l') :
    Calls Tryz.prog 98 #[exV e ka kc ta tc, uv, .int .i64 (F : Int)] w fun x w' => x = .returned (.tuple #[.int .i64 (if c' = 0 then n' else 0), .int .i64 (c' : Int), .int .i64 ((F : Int) - l')]) ∧ Below w.heap.size w w' := by
  have HU := hide hU
  have H0 : Hid (OutR us lo hi w (if c' = 0 then n' else 0) c' l' F (.slice none 0 0) (w.alloc (.cells #[.int .i64 e.kind, .int .i64 e.num, .string e.meter, .slice ka e.kids.length kc, .slice ta e.tiers.length tc] 77)) [] e ka kc ta tc) :=
    hide ⟨Stk.nil _ _ _ _ _, EBox.new _ _ _ _ _ _ _, hI, ⟨n', c', l', hev, rfl, rfl, rfl⟩, below_alloc _ _, by simpa using hF⟩
  clear hU hI hev
  generalize (if c' = 0 then n' else 0) = rv at *
  go_enter Tryz.func98, Tryz.ntmps98
  go_wp2
  go_step3
  go_wp2
  go_step3
  go_wp2
  go_loopg [9, 10, 11] F (fun g s9 s10 s11 wr => ∃ (st : List Fr) (e : Ex) (ka : Option Addr) (kc : Nat) (ta : Option Addr) (tc : Nat), g ≤ F ∧ s10 = .int .i64 ((F : Int) - g) ∧ s11 = .int .i64 0 ∧ Hid (OutR us lo hi w rv c' l' g s9 wr st e ka kc ta tc))
  case atStart => exact ⟨[], e, ka, kc, ta, tc, Nat.le_refl _, by go_num, rfl, H0⟩
  case round =>
    obtain ⟨st, e, ka, kc, ta, tc, hg, rfl, rfl, hO⟩ := hrel
    clear H0
    cases gk with
    | zero =>
      obtain ⟨v, c, l, hv, hC⟩ := (unhide hO).ev
      obtain ⟨rfl, rfl⟩ := hv.nought
      obtain ⟨rfl, rfl, rfl⟩ := hC.bad (by omega)
      have HB := hide (unhide hO).below
      have t1 : ((F : Int) - (0 : Nat) == (F : Int)) = true := by simp
      clear hO hC hv
      go_wp2_with (fail)
      rw [Exit.noGoto_ret]
      go_ret3
      exact ⟨rfl, unhide HB⟩
    | succ g =>
      have t1 : ((F : Int) - ((g + 1 : Nat) : Int) == (F : Int)) = false := beq_eq_false_iff_ne.2 (by omega)
      have t2 : (F : Int) - ((g + 1 : Nat) : Int) + 1 = (F : Int) - g := by omega
      have t3 : -1 ≤ (F : Int) - ((g + 1 : Nat) : Int) := by omega
      have t4 : (F : Int) - ((g + 1 : Nat) : Int) ≤ 1000 := by omega
      have hk : 1 ≤ e.kind ∧ e.kind ≤ 10 := by
        have := node_parts (all_node (unhide hO).isIn.all); exact ⟨this.1, this.2.1⟩
      obtain ⟨b0, b1, b2, b3, b4⟩ := (unhide hO).box.box
      have hE : w.heap.size < wr.heap.size := lt_of_cell b0
      have hEne : some w.heap.size ≠ u9.ownBlock := fun e => by have := ((unhide hO).stk.row.lt w.heap.size e.symm).1; omega
      generalize (F : Int) - ((g + 1 : Nat) : Int) = tk at *
      go_wp2_with (fail)
      go_region_held_law (fun ww => ww.cell? ⟨w.heap.size, 0, none⟩ = some (.int .i64 e.kind) ∧ ww.cell? ⟨w.heap.size, 1, none⟩ = some (.int .i64 e.num) ∧ ww.cell? ⟨w.heap.size, 2, none⟩ = some (.string e.meter) ∧ ww.cell? ⟨w.heap.size, 3, none⟩ = some (.slice ka e.kids.length kc) ∧ ww.cell? ⟨w.heap.size, 4, none⟩ = some (.slice ta e.tiers.length tc)) (go_keep)
        (first | (go_at_call 119; refine (kindOf' hk _).mono ?_; rintro x wq ⟨rfl, rfl⟩) | (refine stepApp7 _ rfl _ _ rfl (w.heap.size + 1) wr.heap.size st.length u9 st e ka kc ta tc hk rfl rfl (World.ownsRow.kept (unhide hO).stk.row (grown_ad wr _ none) (ne_none _)) rfl (show (wr.alloc _).heap[wr.heap.size]? = _ from (MapKept.heap_alloc wr _).1) (by have := (unhide hO).deep; omega) (by simp; omega) ?_; intro gb cb w6 ho hgr hat hlt6; have hg6 : wr.grownBy w6 u9.ownBlock := grown_trans (grown_ad _ _ _) hgr; have EB6 := hide ((unhide hO).box.kept hg6 hEne); obtain ⟨p0, p1, p2, p3, p4⟩ := (unhide EB6).box))
      obtain ⟨W5, hW5⟩ : ∃ W5, (wr.alloc (.cells #[.iface (typeK e.kind) (recK e.kind), .int .i64 e.kind, .int .i64 e.num, .string e.meter, .slice ka e.kids.length kc, .slice ta e.tiers.length tc, .slice none 0 0] 207)).drew = W5 := ⟨_, rfl⟩
      have hb5 : Below wr.heap.size wr W5 := by
        rw [← hW5]; have := below_alloc wr (.cells #[.iface (typeK e.kind) (recK e.kind), .int .i64 e.kind, .int .i64 e.num, .string e.meter, .slice ka e.kids.length kc, .slice ta e.tiers.length tc, .slice none 0 0] 207); exact ⟨this.os, this.tape, this.output, this.size, this.block⟩
      rw [hW5] at hgr hat
      have HI : Hid (InR us lo hi w rv c' l' g (.slice (some ⟨gb, 0, none⟩) (st.length + 1) cb) w6 (fr0 e ka kc ta tc) st) := hide (by
        have h := unhide hO
        obtain ⟨v, c, l, hv, hC⟩ := h.ev
        refine ⟨(h.stk.kept hb5).push h.isIn.ev h.isIn.all h.isIn.wt rfl rfl ho hgr hat, ⟨e, ka, kc, ta, tc, unhide EB6⟩, ⟨v, c, l, hv.more, hC⟩, h.below.grown hg6 h.below.size (fun k hk => ?_), by have := h.deep; omega⟩
        have := (h.stk.row.lt k hk).1; omega)
      clear hgr hat ho hlt6 hg6 EB6 p0 p1 p2 p3 p4 hO b0 b1 b2 b3 b4 hE hEne hW5 hb5
      generalize fr0 e ka kc ta tc = x0 at *
      simp only [go_sem, List.getElem_toArray, List.getElem_cons_succ, List.getElem_cons_zero, List.setIfInBounds_toArray, List.set_cons_succ, List.set_cons_zero]
      go_wp2_with (fail)
      go_loopg [9, 11] st.length (fun g2 s9 s11 wy => ∃ (x : Fr) (st : List Fr), st.length = g2 ∧ s11 = .int .i64 0 ∧ Hid (InR us lo hi w rv c' l' g s9 wy x st))
      case atStart => exact ⟨x0, st, rfl, rfl, HI⟩
      case round =>
        clear HI
        obtain ⟨x, st2, hst, rfl, hJ⟩ := hrel
        obtain ⟨G, cap, hs9⟩ : ∃ G cap, u9 = .slice (some ⟨G, 0, none⟩) (st2.length + 1) cap := by
          rcases (unhide hJ).stk.row.2 with ⟨_, h⟩ | ⟨G, cap, cur, h, _⟩
          · simp at h
          · exact ⟨G, cap, h⟩
        subst hs9 hst
        obtain ⟨f, fka, fkc, fta, ftc, vs, vv⟩ := x
        have hx := (unhide hJ).stk.each _ (List.mem_cons_self ..)
        obtain ⟨va, vc, hvv⟩ := hx.vr.form
        simp only at hvv
        subst hvv
        obtain ⟨_, y0, y1, y2, y3, y4, y5, y6, yf⟩ := (unhide hJ).stk.top
        simp only at y0 y1 y2 y3 y4 y5 y6
        obtain ⟨k1, k2, k3, k4⟩ := node_parts (all_node hx.all)
        simp only at k1 k2 k3 k4
        have hkf : 1 ≤ f.kind ∧ f.kind ≤ 10 := ⟨k1, k2⟩
        rw [kindV_in hkf] at y0
        have hvl : vs.length ≤ 3 := hx.len
        obtain ⟨W7, hW7⟩ : ∃ W7, wr.alloc (.cells #[.iface (typeK f.kind) (recK f.kind), .int .i64 f.kind, .int .i64 f.num, .string f.meter, .slice fka f.kids.length fkc, .slice fta f.tiers.length ftc, .slice va vs.length vc] 207) = W7 := ⟨_, rfl⟩
        have HW7 := hide hW7
        have n7 := new7 wr (.iface (typeK f.kind) (recK f.kind)) (.int .i64 f.kind) (.int .i64 f.num) (.string f.meter) (.slice fka f.kids.length fkc) (.slice fta f.tiers.length ftc) (.slice va vs.length vc) 207
        rw [hW7] at n7
        have N7 := hide n7
        have hb7 : Below wr.heap.size wr W7 := by rw [← hW7]; exact below_alloc _ _
        have hs7 : wr.heap.size < W7.heap.size := by rw [← hW7]; simp
        have HB7 := hide hb7
        have HVR := hide (hx.vr.kept hb7)
        have HX := hide hx
        have mm2 := mNext hkf
        have mm3 := eNext hkf
        have j0 : (0 : Int) ≤ (st2.length : Int) := by omega
        have j1 : ((st2.length + 1 : Nat) : Int) - 1 = (st2.length : Int) := by omega
        have j2 : st2.length ≤ 1000 := by have := (unhide hJ).deep; omega
        have j3 : ((st2.length : Int) + 1) - 1 = (st2.length : Int) := by omega
        clear hW7 n7 hb7 hx
        go_wp2_with (fail)
        rw [unhide HW7]
        refine (nextI hkf _ vs W7 (unhide HVR) hvl).mono ?_
        rintro x8 w8 ⟨p, bb, rfl, hy, hn, hb8⟩
        have HB8 : Hid (Below wr.heap.size wr w8) := hide (below_trans (unhide HB7) hb8)
        have HY := hide hy
        have HN := hide hn
        obtain ⟨m0, m1, m2, m3, m4, m5, m6⟩ := unhide N7
        have q0 := (hb8.cell (p := ⟨wr.heap.size, 0, none⟩) hs7).trans m0
        have q1 := (hb8.cell (p := ⟨wr.heap.size, 1, none⟩) hs7).trans m1
        have q2 := (hb8.cell (p := ⟨wr.heap.size, 2, none⟩) hs7).trans m2
        have q3 := (hb8.cell (p := ⟨wr.heap.size, 3, none⟩) hs7).trans m3
        have q4 := (hb8.cell (p := ⟨wr.heap.size, 4, none⟩) hs7).trans m4
        have q5 := (hb8.cell (p := ⟨wr.heap.size, 5, none⟩) hs7).trans m5
        have q6 := (hb8.cell (p := ⟨wr.heap.size, 6, none⟩) hs7).trans m6
        have hs8 : wr.heap.size < w8.heap.size := Nat.lt_of_lt_of_le hs7 hb8.size
        have HV8 := hide ((unhide HVR).kept hb8)
        clear m0 m1 m2 m3 m4 m5 m6 hb8 hy hn N7 HVR HB7 HW7 y0 y1 y2 y3 y4 y5 y6 yf mm2 mm3
        have HS8 := hide ((unhide hJ).stk.kept (unhide HB8))
        have HBW := hide (below_trans (unhide hJ).below (unhide HB8))
        obtain ⟨e2, ka2, kc2, ta2, tc2, hEB⟩ := (unhide hJ).box
        have hEl : w.heap.size < wr.heap.size := lt_of_cell hEB.box.1
        have HEB := hide (hEB.kept (grown_of_below (unhide HB8) none) (by simp))
        clear hEB
        cases bb
        rotate_left
        · have hnx := unhide HY rfl
          obtain ⟨hv2, hp⟩ := next_len hkf hnx
          have hp' : p < f.kids.length := by omega
          have hIf : In lo hi w f fka fkc fta ftc := ⟨(unhide HX).ev, (unhide HX).all, (unhide HX).wt⟩
          obtain ⟨b, o, ka', kc', ta', tc', hfka, hbhi, hKC, hIn⟩ := hIf.kid hp'
          subst hfka
          obtain ⟨z0, z1, z2, z3, z4⟩ := hKC.same ((unhide HBW).block b (by omega))
          obtain ⟨⟨eb0, eb1, eb2, eb3, eb4⟩, hfree⟩ := unhide HEB
          have f0 := hfree 0
          have f1 := hfree 1
          have f2 := hfree 2
          have f3 := hfree 3
          have f4 := hfree 4
          have p0 : (0 : Int) ≤ (p : Int) := by omega
          have p1 : (p : Int) < (f.kids.length : Int) := by omega
          have hne1 : ¬ b = w.heap.size := by omega
          have hne2 : ¬ wr.heap.size = w.heap.size := by omega
          have HOUT : Hid (OutR us lo hi w rv c' l' g (.slice (some ⟨G, 0, none⟩) (st2.length + 1) cap) (((((w8.setCell ⟨w.heap.size, 0, none⟩ (.int .i64 (f.kids.getD p E0).kind)).setCell ⟨w.heap.size, 1, none⟩ (.int .i64 (f.kids.getD p E0).num)).setCell ⟨w.heap.size, 2, none⟩ (.string (f.kids.getD p E0).meter)).setCell ⟨w.heap.size, 3, none⟩ (.slice ka' (f.kids.getD p E0).kids.length kc')).setCell ⟨w.heap.size, 4, none⟩ (.slice ta' (f.kids.getD p E0).tiers.length tc')) (⟨f, some ⟨b, o, none⟩, fkc, fta, ftc, vs, .slice va vs.length vc⟩ :: st2) (f.kids.getD p E0) ka' kc' ta' tc') := hide (by
            obtain ⟨v, c, l, hr, hC⟩ := (unhide hJ).ev
            exact ⟨(unhide HS8).keptE (grown_set5 _ _ _ _ _ _ _) (by omega), (unhide HEB).set _ _ _ _ _, hIn, Cont.kid hr hC hnx hv2, (unhide HBW).grown (grown_set5 _ _ _ _ _ _ _) (unhide HBW).size (fun k hk => by cases hk; exact Nat.le_refl _), by have := (unhide hJ).deep; simp only [List.length_cons]; omega⟩)
          clear hfree hKC hIf HX HEB HS8 HBW hJ HY HN HV8 hnx hp
          generalize f.kids.getD p E0 = kd at *
          go_wp2_with (fail)
          go_roundg g
          case measure => omega
          case rel => exact ⟨_, kd, ka', kc', ta', tc', by omega, rfl, rfl, HOUT⟩
        · have hnx := unhide HN rfl
          have mm2 := mVal hkf
          have mm3 := eVal hkf
          have HT8 : Hid (TR w8 (.slice fta f.tiers.length ftc) f.tiers) := hide (by
            obtain ⟨d, kv, tv, heq, _, _, ht⟩ := (unhide HX).ev
            simp only [Value.agg.injEq, Array.mk.injEq, List.cons.injEq, and_true, true_and] at heq
            obtain ⟨rfl, rfl⟩ := heq
            exact ht.toTR.kept (unhide HBW))
          have htl : f.tiers.length ≤ 1048576 := by have := (unhide HX).wt; have := wt_eq f; simp only at *; omega
          have HU8 := hide ((unhide HU).kept (unhide HBW))
          have HOK : Hid (∀ v ∈ vs, okB v = true) := hide (unhide HX).ok
          have HNX := hide hnx
          clear hnx
          go_wp2_with (fail)
          refine (runValI us hul f fka fkc fta ftc uv _ vs w8 hkf (unhide HNX) (unhide HV8) hvl (unhide HOK) (unhide HU8) (unhide HT8) htl).mono ?_
          rintro x9 w9 ⟨rfl, hb9⟩
          have HS9 := hide ((unhide HS8).kept hb9)
          have HB9 := hide (below_trans (unhide HBW) hb9)
          have HE9 := hide ((unhide HEB).kept (grown_of_below hb9 none) (by simp))
          clear hb9 HS8 HBW HEB q0 q1 q2 q3 q4 q5 q6 mm2 mm3 HT8 HU8 HV8 HB8
          obtain ⟨rr, rcc, rll, hr, hC⟩ := (unhide hJ).ev
          have hdeep := (unhide hJ).deep
          have HR := hide hr
          have HC := hide hC
          clear hr hC hJ
          cases hvb : valB us f vs
          · obtain ⟨rfl, rfl⟩ := (unhide HR).no (unhide HNX) hvb
            obtain ⟨rfl, rfl, rfl⟩ := (unhide HC).bad (by omega)
            clear hvb HR HC
            go_wp2_with (fail)
            rw [Exit.noGoto_ret]
            go_ret3
            exact ⟨rfl, unhide HB9⟩
          · obtain ⟨rfl, rfl, rfl⟩ := (unhide HR).yes (unhide HNX) hvb
            clear hvb HR
            generalize valV us f vs = vl at *
            cases st2 with
            | nil =>
              obtain ⟨rfl, rfl, hrv⟩ := unhide HC
              rw [if_pos rfl] at hrv
              subst hrv
              clear HC
              go_wp2_with (fail)
              rw [Exit.noGoto_ret]
              go_ret3
              exact ⟨rfl, unhide HB9⟩
            | cons x1 st3 =>
              obtain ⟨f1, a1, b1, d1, g1, vs1, vv1⟩ := x1
              have hx1 := (unhide HS9).each ⟨f1, a1, b1, d1, g1, vs1, vv1⟩ (by simp)
              obtain ⟨va1, vc1, hvv⟩ := hx1.vr.form
              simp only at hvv
              subst hvv
              have hcap : st3.length + 1 + 1 ≤ cap := by
                rcases (unhide HS9).row.2 with ⟨h', _⟩ | ⟨_, _, _, h', _, _, hn, _⟩
                · cases h'
                · simp only [Value.slice.injEq] at h'
                  have := h'.2.2
                  simp only [List.length_cons] at hn
                  omega
              have HS10 := hide (unhide HS9).pop
              obtain ⟨_, y0, y1, y2, y3, y4, y5, y6, yf⟩ := (unhide HS10).top
              simp only at y6
              have hGl : G < w9.heap.size := lt_of_cell y6
              have hGB : w.heap.size + 1 ≤ G := ((unhide HS10).row.lt G rfl).1
              have hE9 : w.heap.size < w9.heap.size := lt_of_cell (unhide HE9).box.1
              obtain ⟨hl2, hC2⟩ := unhide HC
              rw [if_pos rfl] at hC2
              obtain ⟨hvo, r2, c2, l2, hR2, hC3⟩ := hC2
              simp only at hl2 hR2
              have HR2 := hide hR2
              have HC3 := hide hC3
              have HVO := hide hvo
              simp only [List.length_cons] at j0 j1 j2 j3 hdeep HS9 HS10
              have i1 : ((st3.length + 1 : Nat) : Int) == 0 ↔ False := by simp; omega
              have i2 : (((st3.length : Int) + 1) == 0) = false := beq_eq_false_iff_ne.2 (by omega)
              have i3 : (st3.length : Int) + 1 + 1 - 1 = (st3.length : Int) + 1 := by omega
              have i4 : (st3.length : Int) + 1 - 1 = (st3.length : Int) := by omega
              have i5 : (st3.length : Int) + 1 ≤ (cap : Int) := by omega
              have i6 : (0 : Int) ≤ (st3.length : Int) := by omega
              have HX1 := hide hx1
              clear HC hR2 hC3 hvo y0 y1 y2 y3 y4 y5 i1 hx1 HS9
              go_wp2_with (first
                         | (at_builtin
                            refine listApp1 _ rfl _ _ rfl (w.heap.size + 1) w9.heap.size (.slice va1 vs1.length vc1) vs1 vl rfl ((unhide HX1).row.kept (World.grownBy_alloc _ _ none) (ne_none _)) rfl (MapKept.heap_alloc _ _).1 (by omega) (by simp; omega) ?_
                            intro gb2 cb2 w10 ho2 hgr2 hat2 hlt2
                            have hS11 := (unhide HS10).kept (below_alloc w9 (.cells #[.int .i64 vl] 3))
                            have hoff : (Value.slice va1 vs1.length vc1).ownBlock = none ∨ (Value.slice va1 vs1.length vc1).ownBlock ≠ some G := hS11.off _ (List.mem_cons_self ..)
                            have hgG : some G ≠ (Value.slice va1 vs1.length vc1).ownBlock := (by rcases hoff with e | e; (rw [e]; simp); exact fun e' => e e'.symm)
                            have hEo : some w.heap.size ≠ (Value.slice va1 vs1.length vc1).ownBlock := fun e => (by have := ((unhide HX1).row.lt w.heap.size e.symm).1; omega)
                            have hg10 : w9.grownBy w10 (Value.slice va1 vs1.length vc1).ownBlock := grown_trans (World.grownBy_alloc _ _ _) hgr2
                            have z6 := hg10.cell y6 hgG
                            have zf : w10.frozen? ⟨G, st3.length * 7 + 6, none⟩ = false := (World.frozen?_of_block (w := w9) (hg10.block G hGl hgG)).trans yf
                            have HSV := hide (hS11.value (m := vl) hl2 (unhide HVO) ho2 hgr2 hat2)
                            have HE10 := hide ((unhide HE9).kept hg10 hEo)
                            have HB10 := hide ((unhide HB9).grown hg10 (unhide HB9).size (fun k hk => by have := ((unhide HX1).row.lt k hk).1; omega))
                            clear ho2 hgr2 hat2 hS11 hg10 hoff y6 yf))
              have HIN := hide (InR.mk (unhide HSV) ⟨_, _, _, _, _, (unhide HE10).kept (grown_set _ _ _ _) (by intro e; cases e; omega)⟩ ⟨r2, c2, l2, unhide HR2, unhide HC3⟩ ((unhide HB10).grown (grown_set _ _ _ _) (unhide HB10).size (fun k hk => by cases hk; omega)) (by omega))
              clear HSV HE10 HB10
              go_wp2_with (fail)
              go_roundg st3.length
              case measure => simp
              case rel => exact ⟨_, st3, rfl, rfl, HIN⟩
end Go.Proofs.YtnchgeiinkaefaaGreatDoor.Rule
end

section
/-
  impl.RuleRun, and the law on RuleRun.
-/
namespace Go.Proofs.YtnchgeiinkaefaaGreatDoor.Rule
set_option linter.unusedVariables false
open Go.RowKit Tiers

theorem RunOf.no {us : List Uses.U} {e : Ex} {f v c t : Int} (h : RunOf us e f v c t) (hn : ¬ (okE e = true ∧ 0 ≤ f ∧ f ≤ 1000)) : v = 0 ∧ c = 3 ∧ t = 0 := by
  unfold RunOf at h; rw [if_neg hn] at h; exact h
theorem RunOf.yes {us : List Uses.U} {e : Ex} {f v c t : Int} (h : RunOf us e f v c t) (hy : okE e = true ∧ 0 ≤ f ∧ f ≤ 1000) : ∃ (n' : Int) (c' l' : Nat), Ev us e f.toNat n' c' l' ∧ c = c' ∧ (l' : Int) ≤ f ∧ v = (if c' = 0 then n' else 0) ∧ t = f - l' := by
  unfold RunOf at h; rw [if_pos hy] at h; exact h

set_option maxHeartbeats 1600000 in
theorem runI (us : List Uses.U) (hul : us.length ≤ 1048576) (d lo hi : Nat) (v uv : Value) (e : Ex) (f : Int) (w : World) (h : EV lo hi w d v e) (hhi : hi ≤ w.heap.size) (hw : wt e ≤ 1048576) (hU : Uses.UR w uv us) (sv sc st : Int) (hs : RunOf us e f sv sc st) :
    Calls Tryz.prog 65 #[v, uv, .int .i64 f] w fun x w' => x = .returned (.tuple #[.int .i64 sv, .int .i64 sc, .int .i64 st]) ∧ Below w.heap.size w w' := by
  obtain ⟨ka, kc, ta, tc, rfl⟩ := h.form
  have HS := hide hs
  obtain ⟨W1, hW1⟩ : ∃ W1, w.alloc (.cells #[.int .i64 e.kind, .int .i64 e.num, .string e.meter, .slice ka e.kids.length kc, .slice ta e.tiers.length tc] 77) = W1 := ⟨_, rfl⟩
  have HW1 := hide hW1
  have hb1 : Below w.heap.size w W1 := by rw [← hW1]; exact below_alloc _ _
  have HB1 := hide hb1
  have HX : Hid (Box W1 w.heap.size e ka kc ta tc) := hide (by rw [← hW1]; exact Box.new _ _ _ _ _ _ _)
  have HE1 := hide (keptE h hhi hb1)
  have HU1 := hide (hU.kept hb1)
  have hs1 : w.heap.size < W1.heap.size := by rw [← hW1]; simp
  clear hW1 hb1 h hU hs
  by_cases f0 : f < 0
  · obtain ⟨rfl, rfl, rfl⟩ := (unhide HS).no (by omega)
    clear HS
    go_enter Tryz.func65, Tryz.ntmps65
    go_wp2_with (fail)
    go_ret3
    exact ⟨rfl, below_alloc _ _⟩
  by_cases f1 : 1000 < f
  · obtain ⟨rfl, rfl, rfl⟩ := (unhide HS).no (by omega)
    clear HS
    go_enter Tryz.func65, Tryz.ntmps65
    go_wp2_with (fail)
    go_ret3
    exact ⟨rfl, below_alloc _ _⟩
  go_enter Tryz.func65, Tryz.ntmps65
  go_wp2_with (fail)
  rw [unhide HW1]
  refine (okI d lo hi _ e W1 (unhide HE1) (by omega) hw).mono ?_
  rintro x w2 ⟨rfl, hb2⟩
  have HX2 := hide ((unhide HX).kept hb2)
  have HE2 := hide (keptE (unhide HE1) (by omega) hb2)
  have HU2 := hide ((unhide HU1).kept hb2)
  have HB2 := hide (below_trans (unhide HB1) hb2)
  have hs2 : w.heap.size < w2.heap.size := Nat.lt_of_lt_of_le hs1 hb2.size
  clear HX HE1 HU1 HB1 hb2 HW1
  obtain ⟨x0, x1, x2, x3, x4⟩ := unhide HX2
  cases hk : okE e
  · obtain ⟨rfl, rfl, rfl⟩ := (unhide HS).no (by rw [hk]; rintro ⟨h, _⟩; cases h)
    clear hk HS
    go_wp2_with (fail)
    go_ret3
    exact ⟨rfl, unhide HB2⟩
  obtain ⟨F, rfl⟩ := Int.eq_ofNat_of_zero_le (show 0 ≤ f by omega)
  obtain ⟨n', c', l', hev, rfl, hl, hsv, rfl⟩ := (unhide HS).yes ⟨hk, by omega, by omega⟩
  have HEV : Hid (Ev us e F n' c' l') := hide (by simpa using hev)
  have HIN : Hid (In lo hi w2 e ka kc ta tc) := hide ⟨⟨d, unhide HE2⟩, okE_all hk, hw⟩
  clear hev HS hk
  have HV := hide hsv
  clear hsv
  go_wp2_with (fail)
  have hR := runI_expr us hul lo hi uv e ka kc ta tc F (by omega) w2 (unhide HIN) (by omega) (unhide HU2) n' c' l' (unhide HEV)
  rw [← unhide HV] at hR
  refine hR.mono ?_
  rintro x w3 ⟨rfl, hb3⟩
  have HB3 := hide (below_trans (unhide HB2) hb3)
  clear hb3 hR HV HEV HIN
  go_wp2_with (fail)
  go_ret3
  exact ⟨rfl, unhide HB3⟩

end Go.Proofs.YtnchgeiinkaefaaGreatDoor.Rule
end
