/-
  What a tariff comes to: a relation; no program in it.
-/
import Derived.Test.YtdpefmjlmpjjbaaOkS
import Derived.Test.YtdpefmjlmpjjbaaStepM2
import Derived.Test.YtdpefmjlmpjjbaaUses
namespace Go.Proofs.Ytdpefmjlmpjjbaa.Rule
set_option linter.unusedVariables false
open Tiers (stepV stepB)
open Kinds (kidsK)
open Coin (okB addV addB timesV fitB partV partB)

def pairV (k a b : Int) : Int := if k = 3 then addV a b else if k = 4 then addV a (-b) else if k = 5 then timesV a b else if k = 7 then (if b < a then b else a) else (if b < a then a else b)
def pairB (k a b : Int) : Bool := if k = 3 then addB a b else if k = 4 then addB a (-b) else if k = 5 then fitB a b else true
/-- the kid to be run behind those that have these values -/
def nextM (k : Int) (vs : List Int) : Option Nat :=
  if k = 9 then (if vs.length = 0 then some 0 else if vs.length = 1 then (if 0 < vs.getD 0 0 then some 1 else some 2) else none)
  else if (vs.length : Int) < kidsK k then some vs.length else none
def valV (us : List Uses.U) (e : Ex) (vs : List Int) : Int :=
  if e.kind = 1 then e.num else if e.kind = 2 then Uses.ofV e.meter us else if e.kind = 6 then partV (vs.getD 0 0) e.num 10000
  else if e.kind = 9 then vs.getD 1 0 else if e.kind = 10 then stepV e.tiers (vs.getD 0 0) else pairV e.kind (vs.getD 0 0) (vs.getD 1 0)
def valB (us : List Uses.U) (e : Ex) (vs : List Int) : Bool :=
  if e.kind = 1 then true else if e.kind = 2 then okB (Uses.ofV e.meter us) else if e.kind = 6 then partB (vs.getD 0 0) e.num 10000
  else if e.kind = 9 then true else if e.kind = 10 then stepB e.tiers (vs.getD 0 0) else pairB e.kind (vs.getD 0 0) (vs.getD 1 0)

mutual
/-- with so much fuel an expression comes to: a value, a code, the fuel that is left -/
inductive Ev (us : List Uses.U) : Ex → Nat → Int → Nat → Nat → Prop where
  | out (e : Ex) : Ev us e 0 0 2 0
  | go {e : Ex} {l : Nat} {v : Int} {c l' : Nat} (h : Rest us e [] l v c l') : Ev us e (l + 1) v c l'
/-- .. whose first kids to be run came to these values -/
inductive Rest (us : List Uses.U) : Ex → List Int → Nat → Int → Nat → Nat → Prop where
  | kid {e : Ex} {vs : List Int} {l i : Nat} {v : Int} {l' : Nat} {r : Int} {c l'' : Nat} (hn : nextM e.kind vs = some i) (h : Ev us (e.kids.getD i E0) l v 0 l') (ho : okB v = true) (hl : l' ≤ l) (k : Rest us e (vs ++ [v]) l' r c l'') : Rest us e vs l r c l''
  | bad {e : Ex} {vs : List Int} {l i : Nat} {v : Int} {c l' : Nat} (hn : nextM e.kind vs = some i) (h : Ev us (e.kids.getD i E0) l v c l') (hc : c ≠ 0) (hl : l' ≤ l) : Rest us e vs l 0 c l'
  | val {e : Ex} {vs : List Int} {l : Nat} (hn : nextM e.kind vs = none) (hv : valB us e vs = true) : Rest us e vs l (valV us e vs) 0 l
  | over {e : Ex} {vs : List Int} {l : Nat} (hn : nextM e.kind vs = none) (hv : valB us e vs = false) : Rest us e vs l 0 1 l
end

theorem Ev.nought {us : List Uses.U} {e : Ex} {v : Int} {c l' : Nat} (h : Ev us e 0 v c l') : c = 2 ∧ l' = 0 := by
  cases h; exact ⟨rfl, rfl⟩
theorem Ev.more {us : List Uses.U} {e : Ex} {l : Nat} {v : Int} {c l' : Nat} (h : Ev us e (l + 1) v c l') : Rest us e [] l v c l' := by
  cases h; assumption
/-- what the rest is if a kid is to be run -/
theorem Rest.run {us : List Uses.U} {e : Ex} {vs : List Int} {l i : Nat} {r : Int} {c l'' : Nat} (h : Rest us e vs l r c l'') (hn : nextM e.kind vs = some i) :
    (∃ v l', Ev us (e.kids.getD i E0) l v 0 l' ∧ okB v = true ∧ l' ≤ l ∧ Rest us e (vs ++ [v]) l' r c l'') ∨ (∃ v, Ev us (e.kids.getD i E0) l v c l'' ∧ c ≠ 0 ∧ l'' ≤ l) := by
  cases h with
  | kid hn' h ho hl k => rw [hn] at hn'; cases hn'; exact .inl ⟨_, _, h, ho, hl, k⟩
  | bad hn' h hc hl => rw [hn] at hn'; cases hn'; exact .inr ⟨_, h, hc, hl⟩
  | val hn' _ => rw [hn] at hn'; cases hn'
  | over hn' _ => rw [hn] at hn'; cases hn'
theorem Rest.yes {us : List Uses.U} {e : Ex} {vs : List Int} {l : Nat} {r : Int} {c l'' : Nat} (h : Rest us e vs l r c l'') (hn : nextM e.kind vs = none) (hv : valB us e vs = true) : r = valV us e vs ∧ c = 0 ∧ l'' = l := by
  cases h with
  | kid hn' => rw [hn] at hn'; cases hn'
  | bad hn' => rw [hn] at hn'; cases hn'
  | val => exact ⟨rfl, rfl, rfl⟩
  | over _ hv' => rw [hv] at hv'; cases hv'
theorem Rest.no {us : List Uses.U} {e : Ex} {vs : List Int} {l : Nat} {r : Int} {c l'' : Nat} (h : Rest us e vs l r c l'') (hn : nextM e.kind vs = none) (hv : valB us e vs = false) : c = 1 ∧ l'' = l := by
  cases h with
  | kid hn' => rw [hn] at hn'; cases hn'
  | bad hn' => rw [hn] at hn'; cases hn'
  | val _ hv' => rw [hv] at hv'; cases hv'
  | over => exact ⟨rfl, rfl⟩

theorem pair_bd {k a b : Int} (ha : okB a = true) (hb : okB b = true) (h : pairB k a b = true) : okB (pairV k a b) = true := by
  unfold pairB at h
  unfold pairV
  split
  · rename_i h3; rw [if_pos h3] at h; rw [Coin.addV_yes h]; exact (Tiers.addB_parts h).2.2
  rename_i h3; rw [if_neg h3] at h
  split
  · rename_i h4; rw [if_pos h4] at h; rw [Coin.addV_yes h]; exact (Tiers.addB_parts h).2.2
  rename_i h4; rw [if_neg h4] at h
  split
  · rename_i h5; rw [if_pos h5] at h; rw [Coin.timesV_yes h]; exact Coin.okB_true (Coin.fit_ok h).2.2
  split <;> split <;> assumption
theorem node_parts {e : Ex} (h : nodeE e = true) : 1 ≤ e.kind ∧ e.kind ≤ 10 ∧ (e.kids.length : Int) = kidsK e.kind ∧ fitsB e.kind e.num e.meter e.tiers = true := by
  unfold nodeE nodeB at h
  simp only [Bool.and_eq_true, decide_eq_true_eq] at h
  exact ⟨h.1.1, h.1.2.1, h.1.2.2, h.2⟩
theorem all_kid {e : Ex} {i : Nat} (h : allB e = true) (hi : i < e.kids.length) : allB (e.kids.getD i E0) = true := by
  rw [allB_eq] at h
  simp only [Bool.and_eq_true] at h
  have h2 := h.2
  have : allL (e.kids.take (i + 1)) = true := by
    cases hh : allL (e.kids.take (i + 1))
    · rw [allL_false hh] at h2; cases h2
    · rfl
  rw [allL_take hi] at this
  simp only [Bool.and_eq_true] at this
  exact this.2
theorem all_node {e : Ex} (h : allB e = true) : nodeE e = true := by
  rw [allB_eq] at h; simp only [Bool.and_eq_true] at h; exact h.1
theorem num_bd {e : Ex} (h : nodeE e = true) (hk : e.kind = 1) : okB e.num = true := by
  have := (node_parts h).2.2.2
  unfold fitsB at this
  rw [if_pos hk] at this
  simp only [Bool.and_eq_true, decide_eq_true_eq] at this
  exact Coin.okB_true (by omega)
theorem wt_kid {e : Ex} {i : Nat} (hi : i < e.kids.length) (hw : wt e ≤ 1048576) : wt (e.kids.getD i E0) ≤ 1048576 := by
  have := wt_at hi
  rw [wt_eq] at hw; omega
end Go.Proofs.Ytdpefmjlmpjjbaa.Rule
