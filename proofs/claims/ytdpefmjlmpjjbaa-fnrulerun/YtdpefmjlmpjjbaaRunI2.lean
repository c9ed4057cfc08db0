/-
  impl's run of a tariff: the list of those that have begun, in memory, and what is still to come.
-/
import Derived.Test.YtdpefmjlmpjjbaaRunI
import Derived.Laws.OwnMore
import Derived.WalkSmall
import Derived.Deep.AppendLies
import Derived.Deep.RegionHeldLaw
import Derived.OwnWalk
namespace Go.Proofs.Ytdpefmjlmpjjbaa.Rule
set_option linter.unusedVariables false
open Go.RowKit Tiers
open Kinds hiding hide unhide below_trans ext_toList
open Coin (okB addV addB timesV fitB partV partB)
open Draw (grown_trans grown_none grown_of_below below_of)

/-- one that has begun -/
structure Fr where
  f : Ex
  ka : Option Addr
  kc : Nat
  ta : Option Addr
  tc : Nat
  vs : List Int
  vv : Value
/-- its cells -/
def Fr.cells (x : Fr) : List Value := [kindV x.f.kind, .int .i64 x.f.kind, .int .i64 x.f.num, .string x.f.meter, .slice x.ka x.f.kids.length x.kc, .slice x.ta x.f.tiers.length x.tc, x.vv]
/-- the innermost first; in memory it is the last -/
def flat7 : List Fr → List Value
  | [] => []
  | x :: st => flat7 st ++ x.cells
theorem flat7_len : ∀ st : List Fr, (flat7 st).length = st.length * 7
  | [] => rfl
  | x :: st => by rw [flat7, List.length_append, flat7_len st]; simp [Fr.cells]; omega

/-- what is still to come -/
def Cont (us : List Uses.U) : List Fr → Int → Nat → Nat → Int → Nat → Nat → Prop
  | [], v, c, l, rv, rc, rl => rc = c ∧ rl = l ∧ rv = if c = 0 then v else 0
  | x :: st, v, c, l, rv, rc, rl => x.vs.length ≤ 2 ∧ if c = 0 then okB v = true ∧ ∃ r c' l', Rest us x.f (x.vs ++ [v]) l r c' l' ∧ Cont us st r c' l' rv rc rl else rc = c ∧ rl = l ∧ rv = 0
theorem Cont.bad {us : List Uses.U} {st : List Fr} {v : Int} {c l : Nat} {rv : Int} {rc rl : Nat} (h : Cont us st v c l rv rc rl) (hc : ¬ c = 0) : rc = c ∧ rl = l ∧ rv = 0 := by
  cases st with
  | nil => obtain ⟨h1, h2, h3⟩ := h; rw [if_neg hc] at h3; exact ⟨h1, h2, h3⟩
  | cons x st => have := h.2; rw [if_neg hc] at this; exact this
/-- a kid is begun -/
theorem Cont.kid {us : List Uses.U} {x : Fr} {st : List Fr} {l i : Nat} {r : Int} {c l'' : Nat} {rv : Int} {rc rl : Nat} (h : Rest us x.f x.vs l r c l'') (k : Cont us st r c l'' rv rc rl) (hn : nextM x.f.kind x.vs = some i) (hv : x.vs.length ≤ 2) :
    ∃ v c' l', Ev us (x.f.kids.getD i E0) l v c' l' ∧ Cont us (x :: st) v c' l' rv rc rl := by
  rcases h.run hn with ⟨v, l', h1, h2, h3, h4⟩ | ⟨v, h1, h2, h3⟩
  · exact ⟨v, 0, l', h1, hv, by rw [if_pos rfl]; exact ⟨h2, r, c, l'', h4, k⟩⟩
  · exact ⟨v, c, l'', h1, hv, by rw [if_neg h2]; exact k.bad h2⟩
theorem next_len {k : Int} {vs : List Int} {i : Nat} (hk : 1 ≤ k ∧ k ≤ 10) (h : nextM k vs = some i) : vs.length ≤ 2 ∧ (i : Int) < kidsK k := by
  unfold nextM at h
  by_cases h9 : k = 9
  · subst h9
    rw [if_pos rfl] at h
    split at h
    · rename_i h0; cases h; exact ⟨by omega, by decide⟩
    split at h
    · rename_i h1
      split at h <;> cases h
      · exact ⟨by omega, by decide⟩
      · exact ⟨by omega, by decide⟩
    · cases h
  · rw [if_neg h9] at h
    split at h
    · rename_i h0
      cases h
      refine ⟨?_, h0⟩
      have : kidsK k ≤ 3 := by
        unfold kidsK
        split
        · omega
        split
        · omega
        split
        · omega
        omega
      omega
    · cases h

/-- each holds an expression that is right, and its values in a row of its own -/
structure FrOk (lo hi : Nat) (w0 W : World) (B : Nat) (x : Fr) : Prop where
  ev : ∃ d, EV lo hi w0 d (exV x.f x.ka x.kc x.ta x.tc) x.f
  all : allB x.f = true
  wt : wt x.f ≤ 1048576
  len : x.vs.length ≤ 3
  ok : ∀ v ∈ x.vs, okB v = true
  row : W.ownsRow B 3 1 x.vv x.vs.length (x.vs.map (Value.int .i64))
/-- the list g holds them all, in rows apart -/
structure Stk (lo hi : Nat) (w0 W : World) (B : Nat) (v : Value) (st : List Fr) : Prop where
  row : W.ownsRow B 64 7 v st.length (flat7 st)
  each : ∀ x ∈ st, FrOk lo hi w0 W B x
  apart : st.Pairwise fun x y => x.vv.ownBlock = none ∨ x.vv.ownBlock ≠ y.vv.ownBlock
  off : ∀ x ∈ st, x.vv.ownBlock = none ∨ x.vv.ownBlock ≠ v.ownBlock

theorem FrOk.kept {lo hi : Nat} {w0 W W' : World} {B : Nat} {x : Fr} {r : Option Nat} (h : FrOk lo hi w0 W B x) (hg : W.grownBy W' r) (hne : x.vv.ownBlock = none ∨ x.vv.ownBlock ≠ r) : FrOk lo hi w0 W' B x :=
  ⟨h.ev, h.all, h.wt, h.len, h.ok, h.row.kept hg hne⟩
theorem ne_none (v : Value) : v.ownBlock = none ∨ v.ownBlock ≠ (none : Option Nat) := by cases h : v.ownBlock <;> simp
theorem Stk.kept {lo hi : Nat} {w0 W W' : World} {B : Nat} {v : Value} {st : List Fr} (h : Stk lo hi w0 W B v st) (hb : Below W.heap.size W W') : Stk lo hi w0 W' B v st := by
  have hg := grown_of_below hb none
  exact ⟨h.row.kept hg (ne_none _), fun x hx => (h.each x hx).kept hg (ne_none _), h.apart, h.off⟩
theorem Stk.nil (lo hi : Nat) (w0 W : World) (B : Nat) : Stk lo hi w0 W B (.slice none 0 0) [] := ⟨World.ownsRow_nil _ _ _ _, by simp, by simp, by simp⟩
theorem FrOk.blockLt {lo hi : Nat} {w0 W : World} {B : Nat} {x : Fr} (h : FrOk lo hi w0 W B x) {k : Nat} (hk : x.vv.ownBlock = some k) : k < W.heap.size := (h.row.lt k hk).2

/-- one more begins -/
theorem Stk.push {lo hi : Nat} {w0 W W' : World} {B : Nat} {v : Value} {st : List Fr} {x : Fr} {g cap : Nat} (h : Stk lo hi w0 W B v st) (hx : ∃ d, EV lo hi w0 d (exV x.f x.ka x.kc x.ta x.tc) x.f) (ha : allB x.f = true) (hw : Rule.wt x.f ≤ 1048576) (hv : x.vv = .slice none 0 0) (hvs : x.vs = [])
    (hr : W'.ownsRow B 64 7 (.slice (some ⟨g, 0, none⟩) (st.length + 1) cap) (st.length + 1) (flat7 st ++ x.cells)) (hg : W.grownBy W' v.ownBlock) (hat : v.ownBlock = some g ∨ g = W.heap.size) :
    Stk lo hi w0 W' B (.slice (some ⟨g, 0, none⟩) (st.length + 1) cap) (x :: st) := by
  have hb : (x.vv).ownBlock = none := by rw [hv]; rfl
  refine ⟨hr, ?_, ?_, ?_⟩
  · intro y hy
    rcases List.mem_cons.1 hy with rfl | hy
    · exact ⟨hx, ha, hw, by rw [hvs]; simp, by rw [hvs]; simp, by rw [hv, hvs]; exact World.ownsRow_nil _ _ _ _⟩
    · exact (h.each y hy).kept hg (h.off y hy)
  · exact List.pairwise_cons.2 ⟨fun y _ => .inl hb, h.apart⟩
  · intro y hy
    rcases List.mem_cons.1 hy with rfl | hy
    · exact .inl hb
    · cases hbl : y.vv.ownBlock with
      | none => exact .inl rfl
      | some k =>
        right
        show some k ≠ some g
        rcases hat with hat | hat
        · have := h.off y hy
          rw [hbl] at this
          rcases this with h' | h'
          · cases h'
          · rw [hat] at h'; exact h'
        · have := (h.each y hy).blockLt hbl
          intro e; cases e; omega
/-- the innermost is done -/
theorem Stk.pop {lo hi : Nat} {w0 W : World} {B : Nat} {g n cap : Nat} {x : Fr} {st : List Fr} (h : Stk lo hi w0 W B (.slice (some ⟨g, 0, none⟩) n cap) (x :: st)) : Stk lo hi w0 W B (.slice (some ⟨g, 0, none⟩) st.length cap) st := by
  have hr := h.row
  have e : n = st.length + 1 := by
    rcases hr.2 with ⟨h', _⟩ | ⟨g', cap', cur, h', _⟩
    · cases h'
    · simp only [Value.slice.injEq] at h'; exact h'.2.1
  subst e
  exact ⟨ownsRow_pop (flat7_len st) hr, fun y hy => h.each y (List.mem_cons_of_mem _ hy), (List.pairwise_cons.1 h.apart).2, fun y hy => h.off y (List.mem_cons_of_mem _ hy)⟩
/-- the innermost has one more value -/
theorem Stk.value {lo hi : Nat} {w0 W W1 : World} {B : Nat} {g n cap : Nat} {x : Fr} {st : List Fr} {m : Int} {g' cap' : Nat} (h : Stk lo hi w0 W B (.slice (some ⟨g, 0, none⟩) n cap) (x :: st)) (hl : x.vs.length ≤ 2) (hm : okB m = true)
    (hr : W1.ownsRow B 3 1 (.slice (some ⟨g', 0, none⟩) (x.vs.length + 1) cap') (x.vs.length + 1) (x.vs.map (Value.int .i64) ++ [.int .i64 m])) (hg : W.grownBy W1 x.vv.ownBlock) (hat : x.vv.ownBlock = some g' ∨ g' = W.heap.size) :
    Stk lo hi w0 (W1.setCell ⟨g, st.length * 7 + 6, none⟩ (.slice (some ⟨g', 0, none⟩) (x.vs.length + 1) cap')) B (.slice (some ⟨g, 0, none⟩) n cap) ({ x with vs := x.vs ++ [m], vv := .slice (some ⟨g', 0, none⟩) (x.vs.length + 1) cap' } :: st) := by
  have hgv : x.vv.ownBlock = none ∨ x.vv.ownBlock ≠ some g := h.off x (List.mem_cons_self ..)
  have hgl : g < W.heap.size := (h.row.lt g rfl).2
  have hgg : some g ≠ x.vv.ownBlock := by
    rcases hgv with e | e
    · rw [e]; simp
    · exact fun e' => e e'.symm
  have hg' : some g' ≠ some g := by
    rcases hat with e | e
    · rw [← e]; exact hgg.symm
    · intro e'; cases e'; omega
  have hrow1 := h.row.kept hg (.inr hgg)
  have e : n = st.length + 1 := by
    rcases h.row.2 with ⟨h', _⟩ | ⟨_, _, _, h', _⟩
    · cases h'
    · simp only [Value.slice.injEq] at h'; exact h'.2.1
  subst e
  obtain ⟨hs, hgs⟩ := hrow1.stored (st.length * 7 + 6) (.slice (some ⟨g', 0, none⟩) (x.vs.length + 1) cap')
  refine ⟨?_, ?_, ?_, ?_⟩
  · have e2 : (flat7 (x :: st)).set (st.length * 7 + 6) (.slice (some ⟨g', 0, none⟩) (x.vs.length + 1) cap') = flat7 ({ x with vs := x.vs ++ [m], vv := .slice (some ⟨g', 0, none⟩) (x.vs.length + 1) cap' } :: st) := by
      rw [flat7, flat7, List.set_append_right _ _ (by rw [flat7_len]; omega), flat7_len]
      have : st.length * 7 + 6 - st.length * 7 = 6 := by omega
      rw [this]; rfl
    rw [e2] at hs
    exact hs
  · intro y hy
    rcases List.mem_cons.1 hy with rfl | hy
    · have hx := h.each x (List.mem_cons_self ..)
      refine ⟨hx.ev, hx.all, hx.wt, by simp; omega, fun v hv => ?_, ?_⟩
      · rcases List.mem_append.1 hv with hv | hv
        · exact hx.ok v hv
        · rw [List.mem_singleton.1 hv]; exact hm
      · have := hr.kept hgs (.inr (show some g' ≠ some g from hg'))
        simpa using this
    · have hy1 := h.each y (List.mem_cons_of_mem _ hy)
      have hp := (List.pairwise_cons.1 h.apart).1 y hy
      refine (hy1.kept hg ?_).kept hgs (h.off y (List.mem_cons_of_mem _ hy))
      cases hb : y.vv.ownBlock with
      | none => exact .inl rfl
      | some k =>
        right
        rcases hp with e | e
        · rw [e]; simp
        · rw [hb] at e; exact e.symm
  · refine List.pairwise_cons.2 ⟨fun y hy => ?_, (List.pairwise_cons.1 h.apart).2⟩
    right
    show some g' ≠ y.vv.ownBlock
    have hp := (List.pairwise_cons.1 h.apart).1 y hy
    cases hb : y.vv.ownBlock with
    | none => simp
    | some k =>
      rcases hat with e | e
      · rw [← e]
        rcases hp with h' | h'
        · rw [h'] at e; cases e
        · rw [hb] at h'; exact h'
      · have := (h.each y (List.mem_cons_of_mem _ hy)).blockLt hb
        intro e'; cases e'; omega
  · intro y hy
    rcases List.mem_cons.1 hy with rfl | hy
    · exact .inr hg'
    · exact h.off y (List.mem_cons_of_mem _ hy)
/-- what lies in memory of the innermost -/
theorem Stk.top {lo hi : Nat} {w0 W : World} {B : Nat} {g n cap : Nat} {x : Fr} {st : List Fr} (h : Stk lo hi w0 W B (.slice (some ⟨g, 0, none⟩) n cap) (x :: st)) :
    n = st.length + 1 ∧ W.cell? ⟨g, st.length * 7, none⟩ = some (kindV x.f.kind) ∧ W.cell? ⟨g, st.length * 7 + 1, none⟩ = some (.int .i64 x.f.kind) ∧ W.cell? ⟨g, st.length * 7 + 2, none⟩ = some (.int .i64 x.f.num) ∧ W.cell? ⟨g, st.length * 7 + 3, none⟩ = some (.string x.f.meter) ∧ W.cell? ⟨g, st.length * 7 + 4, none⟩ = some (.slice x.ka x.f.kids.length x.kc) ∧ W.cell? ⟨g, st.length * 7 + 5, none⟩ = some (.slice x.ta x.f.tiers.length x.tc) ∧ W.cell? ⟨g, st.length * 7 + 6, none⟩ = some x.vv ∧ W.frozen? ⟨g, st.length * 7 + 6, none⟩ = false := by
  have e : n = st.length + 1 := by
    rcases h.row.2 with ⟨h', _⟩ | ⟨_, _, _, h', _⟩
    · cases h'
    · simp only [Value.slice.injEq] at h'; exact h'.2.1
  subst e
  have hr := h.row
  have hc : ∀ j u, x.cells[j]? = some u → W.cell? ⟨g, st.length * 7 + j, none⟩ = some u := by
    intro j u hu
    have hj : j < 7 := by
      have := (List.getElem?_eq_some_iff.1 hu).1
      simpa [Fr.cells] using this
    have := hr.cellAt (st.length * 7 + j) (by omega)
    rw [this, flat7, List.getElem?_append_right (by rw [flat7_len]; omega), flat7_len]
    have e : st.length * 7 + j - st.length * 7 = j := by omega
    rw [e]; exact hu
  exact ⟨rfl, hc 0 _ rfl, hc 1 _ rfl, hc 2 _ rfl, hc 3 _ rfl, hc 4 _ rfl, hc 5 _ rfl, hc 6 _ rfl, hr.frozenAt _⟩
/-- the values of one, to be read -/
theorem FrOk.vr {lo hi : Nat} {w0 W : World} {B : Nat} {x : Fr} (h : FrOk lo hi w0 W B x) : VR W x.vv x.vs := by
  have hr := h.row
  rcases hr.2 with ⟨h1, h2⟩ | ⟨g, cap, cur, h1, hB, hgg, _⟩
  · left
    have : x.vs.length = 0 := h2
    exact ⟨List.eq_nil_of_length_eq_zero this, _, _, h1⟩
  · right
    have hlt := hr.lt g (by rw [h1]; rfl)
    refine ⟨g, 0, cap, h1, hlt.2, fun i hi => ?_⟩
    have := hr.cells (g := g) (by rw [h1]; rfl) i (.int .i64 (x.vs.getD i 0)) (by simp [List.getD, hi])
    rw [Addr.add_lit] at this
    exact this
end Go.Proofs.Ytdpefmjlmpjjbaa.Rule
