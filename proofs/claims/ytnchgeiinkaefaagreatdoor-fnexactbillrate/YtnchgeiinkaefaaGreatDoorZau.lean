/-
  Texts of this proof laid together, in build order; each says of itself what it holds.
-/
import Derived.Test.YtnchgeiinkaefaaGreatDoorZat
import Derived.ArgAppend
import Derived.Deep.AppendLies
import Derived.Test.YtnchgeiinkaefaaGreatDoorZak
import Derived.Test.YtnchgeiinkaefaaGreatDoorZaj
import Derived.Test.YtnchgeiinkaefaaGreatDoorZaf
import Derived.Test.YtnchgeiinkaefaaGreatDoorZae
import Derived.Deep.RegionLaw
section
/-
  Events in a map by their Ids: the method 'list' tells them in their order, in new memory.
-/
namespace Go.Proofs.YtnchgeiinkaefaaGreatDoor.Evs
set_option linter.unusedVariables false
open Go.RowKit Go.Maps MapM Go.Shelf

attribute [local go_sem] Oper.semAt_some

theorem new1 (w : World) (a : Value) (t : TypeId) : (w.alloc (.cells #[a] t)).cell? ⟨w.heap.size, 0, none⟩ = some a ∧ (w.alloc (.cells #[a] t)).frozen? ⟨w.heap.size, 0, none⟩ = false := by
  have e1 := (MapKept.heap_alloc w (.cells #[a] t)).1
  simp only [World.cell?, World.frozen?]
  rw [e1]; simp
theorem EOwn.keptR {W W' : World} {b : Nat} {L : List E} {row : Option Nat} (h : EOwn W b L) (hL : 0 < L.length) (hg : W.grownBy W' row) (hr : ∀ r, row = some r → ∃ o : Obj, W.heap[r]? = some o ∧ o.isCells = false) : EOwn W' b L := by
  obtain ⟨o, ho, hc⟩ := cells_of_cell (h.1.2 0 hL).1
  have hk := grownBy_keeps_cells hg hr ho hc
  refine ⟨⟨Nat.lt_of_lt_of_le h.1.1 hg.size, fun i hi => ?_⟩, fun j => ?_⟩
  · obtain ⟨c0, c1, c2⟩ := h.1.2 i hi
    have key : ∀ o : Nat, W'.cell? ⟨b, o, none⟩ = W.cell? ⟨b, o, none⟩ := fun o => World.cell?_of_block hk
    exact ⟨(key _).trans c0, (key _).trans c1, (key _).trans c2⟩
  · have key : W'.frozen? ⟨b, j, none⟩ = W.frozen? ⟨b, j, none⟩ := World.frozen?_of_block hk
    exact key.trans (h.2 j)
theorem EOwn.other {W : World} {b : Nat} {L : List E} (h : EOwn W b L) {j : Nat} (hj : b ≠ j) (o : Nat) (u : Value) : EOwn (W.setCell ⟨j, o, none⟩ u) b L := by
  have hne : ∀ o' : Nat, (⟨j, o, none⟩ : Addr) ≠ ⟨b, o', none⟩ := fun o' e => hj (by simp only [Addr.mk.injEq] at e; exact e.1.symm)
  refine ⟨⟨by simpa using h.1.1, fun i hi => ?_⟩, fun k => by simpa [World.frozen?_setCell] using h.2 k⟩
  obtain ⟨c0, c1, c2⟩ := h.1.2 i hi
  exact ⟨(World.cell?_setCell_other _ _ _ _ (hne _)).trans c0, (World.cell?_setCell_other _ _ _ _ (hne _)).trans c1, (World.cell?_setCell_other _ _ _ _ (hne _)).trans c2⟩
theorem set_grown (w : World) (b o : Nat) (u : Value) : w.grownBy (w.setCell ⟨b, o, none⟩ u) (some b) := by
  refine ⟨rfl, rfl, rfl, ?_, ?_⟩
  · simp
  · intro j hj hne
    exact Below.heap_setCell w ⟨b, o, none⟩ u j (fun e => hne (by rw [e]))
theorem KpB.grown {B : Nat} {W W' : World} {r : Option Nat} (hg : W.grownBy W' r) (hr : r = none ∨ r = some B ∨ r = some (B + 1)) : KpB B W W' :=
  ⟨hg.os, hg.tape, hg.output, hg.size, fun j o hj ho => by
    have hjs : j < W.heap.size := by
      refine Nat.lt_of_not_le fun hle => ?_
      rw [Array.getElem?_eq_none hle] at hj; simp at hj
    refine (hg.block j hjs ?_).trans hj
    rcases hr with rfl | rfl | rfl
    · simp
    · intro e; simp only [Option.some.injEq] at e; omega
    · intro e; simp only [Option.some.injEq] at e; omega⟩

/-- an append whose run is known, inside a fence -/
theorem wpListIn_app {F : Fence} {nF : Nat} {w w' : World} {ops : Array Oper} {rest : List Oper} {o : Oper} {a : Act} {Q : Exit → Act → World → Prop} (hgd : o.guard = none) (s x : Operand) (t : TypeId)
    (ho : o.op = .call { callee := .builtin .append, args := #[s, x], argTypes := #[t, t] }) (sv xv v : Value) (hs : a.eval s = sv) (hx : a.eval x = xv) (hr : ∀ ty, (Builtin.append_ #[t, t] ty #[sv, xv]).run Tryz.prog w = .ok v w')
    (h : wpListIn F nF Tryz.prog ops Q rest (a.put o.dst v) w') : wpListIn F nF Tryz.prog ops Q (o :: rest) a w := by
  refine wpListIn_plain hgd fun K hK => ?_
  unfold Oper.wpIn
  refine ⟨by simp [Oper.about, ho, resolve, Target.leads, Sem.run_pure], ?_⟩
  rw [Oper.semAt_plain F _ _ (by rw [ho]; intro c hc'; cases hc')]
  simp [execOp, ho, resolve, invoke, builtin, hs, hx, hr, Result.andThen]
  exact hK _ _ h

end Go.Proofs.YtnchgeiinkaefaaGreatDoor.Evs
end

section
/-
  impl.UsePut and impl.UseFix: what they answer.
-/
namespace Go.Proofs.YtnchgeiinkaefaaGreatDoor.Evs
set_option linter.unusedVariables false
open Go.RowKit Go.Maps MapM

end Go.Proofs.YtnchgeiinkaefaaGreatDoor.Evs
end

section
/-
  spec.UsePut and spec.UseFix: what they answer.
-/
namespace Go.Proofs.YtnchgeiinkaefaaGreatDoor.Evs
set_option linter.unusedVariables false
open Go.RowKit Go.Maps MapM

end Go.Proofs.YtnchgeiinkaefaaGreatDoor.Evs
end

section
/-
  The sums of events by their meters: the mathematics.
-/
namespace Go.Proofs.YtnchgeiinkaefaaGreatDoor.Sums
set_option linter.unusedVariables false
open Go.RowKit Go.Maps MapM
open Uses (U U0)
open Evs (E E0 hide unhide)

abbrev keyU (u : U) : ByteArray := u.1
abbrev valU (u : U) : Value := .int .i64 u.2

theorem ascU_put {l : List U} {e : U} (ha : Asc keyU l) (h : ∀ a ∈ l, kb keyU a ≠ kb keyU e) : Asc keyU (l.take (pos keyU (kb keyU e) l) ++ e :: l.drop (pos keyU (kb keyU e) l)) := by
  have hp := pos_le keyU (kb keyU e) l
  have htake : ∀ a ∈ l.take (pos keyU (kb keyU e) l), kb keyU a < kb keyU e := by
    intro a hm
    obtain ⟨i, hi, rfl⟩ := List.getElem_of_mem hm
    rw [List.getElem_take]
    exact (pos_spec keyU (kb keyU e) l i (by simp at hi; omega)).1 (by simp at hi; omega)
  have hdrop : ∀ a ∈ l.drop (pos keyU (kb keyU e) l), kb keyU e < kb keyU a := by
    intro a hm
    obtain ⟨i, hi, rfl⟩ := List.getElem_of_mem hm
    rw [List.getElem_drop]
    have hi' : pos keyU (kb keyU e) l + i < l.length := by simp at hi; omega
    have hpl : pos keyU (kb keyU e) l < l.length := by omega
    have h1 : kb keyU e < kb keyU l[pos keyU (kb keyU e) l] := lt_tri ((pos_spec keyU (kb keyU e) l _ hpl).2 rfl) (h _ (List.getElem_mem hpl))
    by_cases h0 : i = 0
    · subst h0; exact h1
    · exact List.lt_trans h1 (List.pairwise_iff_getElem.1 ha _ _ hpl hi' (by omega))
  refine List.pairwise_append.2 ⟨List.Pairwise.sublist (List.take_sublist _ _) ha, List.pairwise_cons.2 ⟨hdrop, List.Pairwise.sublist (List.drop_sublist _ _) ha⟩, ?_⟩
  intro a hm b hb
  rcases List.mem_cons.1 hb with rfl | hb
  · exact htake a hm
  · exact List.lt_trans (htake a hm) (hdrop b hb)
theorem ascU_set {l : List U} {e : U} {k : Nat} (ha : Asc keyU l) (hk : k < l.length) (h : kb keyU l[k] = kb keyU e) : Asc keyU (l.set k e) := by
  refine List.pairwise_iff_getElem.2 (fun i j hi hj hij => ?_)
  have hi' : i < l.length := by simpa using hi
  have hj' : j < l.length := by simpa using hj
  have hlt := List.pairwise_iff_getElem.1 ha i j hi' hj' hij
  rw [List.getElem_set, List.getElem_set]
  by_cases e1 : k = i
  · subst e1
    rw [if_pos rfl, if_neg (by omega), ← h]
    exact hlt
  · rw [if_neg e1]
    by_cases e2 : k = j
    · subst e2
      rw [if_pos rfl, ← h]
      exact hlt
    · rw [if_neg e2]
      exact hlt

theorem kbU_inj {a : U} {s : ByteArray} (h : kb keyU a = s.data.toList) : a.1 = s := by
  have : a.1.data = s.data := Array.toList_inj.1 h
  cases hh : a.1; cases s; simp_all
/-- where a meter is, or belongs -/
abbrev posU (l : List U) (m : ByteArray) : Nat := pos keyU m.data.toList l
def hasU (l : List U) (m : ByteArray) : Bool := l.any fun u => decide (u.1 = m)
/-- how much of it there is -/
def lkU (l : List U) (m : ByteArray) : Int := if hasU l m = true then (l.getD (posU l m) U0).2 else 0
/-- as much more -/
def addU (l : List U) (m : ByteArray) (q : Int) : List U :=
  if hasU l m = true then l.set (posU l m) (m, lkU l m + q) else l.take (posU l m) ++ (m, lkU l m + q) :: l.drop (posU l m)
def sumsFrom (a : List U) (l : List E) : List U := l.foldl (fun acc e => addU acc e.2.1 e.2.2) a
/-- the sums -/
def sums (l : List E) : List U := sumsFrom [] l

theorem has_no {l : List U} {m : ByteArray} (h : hasU l m = false) : ∀ a ∈ l, a.1 ≠ m := by
  intro a ha e
  unfold hasU at h
  have := List.any_eq_false.1 h a ha
  simp [e] at this
theorem has_no_kb {l : List U} {m : ByteArray} (h : hasU l m = false) : ∀ a ∈ l, kb keyU a ≠ m.data.toList := fun a ha e => has_no h a ha (kbU_inj e)
theorem posU_hit {l : List U} (ha : Asc keyU l) {k : Nat} (hk : k < l.length) : pos keyU (kb keyU l[k]) l = k :=
  pos_of keyU (Nat.le_of_lt hk) (fun i hi h => List.pairwise_iff_getElem.1 ha i k hi hk h) (fun _ => List.lt_irrefl _)
theorem has_yes {l : List U} {m : ByteArray} (ha : Asc keyU l) (h : hasU l m = true) : ∃ hp : posU l m < l.length, l[posU l m].1 = m := by
  unfold hasU at h
  obtain ⟨a, hm, he⟩ := List.any_eq_true.1 h
  obtain ⟨k, hk, rfl⟩ := List.getElem_of_mem hm
  have he' : l[k].1 = m := of_decide_eq_true he
  have hp : posU l m = k := by
    have := posU_hit ha hk
    unfold posU
    rw [← he']
    exact this
  refine ⟨by omega, ?_⟩
  simp only [hp]
  exact he'
theorem has_at {l : List U} {m : ByteArray} {k : Nat} (hk : k < l.length) (h : l[k].1 = m) : hasU l m = true := by
  unfold hasU
  exact List.any_eq_true.2 ⟨l[k], List.getElem_mem hk, by simp [h]⟩
theorem lk_yes {l : List U} {m : ByteArray} (h : hasU l m = true) : lkU l m = (l.getD (posU l m) U0).2 := by unfold lkU; rw [if_pos h]
theorem lk_no {l : List U} {m : ByteArray} (h : hasU l m = false) : lkU l m = 0 := by unfold lkU; rw [if_neg (by rw [h]; simp)]
theorem add_yes {l : List U} {m : ByteArray} {q : Int} (h : hasU l m = true) : addU l m q = l.set (posU l m) (m, lkU l m + q) := by unfold addU; rw [if_pos h]
theorem add_no {l : List U} {m : ByteArray} {q : Int} (h : hasU l m = false) : addU l m q = l.take (posU l m) ++ (m, q) :: l.drop (posU l m) := by unfold addU; rw [if_neg (by rw [h]; simp), lk_no h]; simp
theorem add_asc {l : List U} {m : ByteArray} {q : Int} (ha : Asc keyU l) : Asc keyU (addU l m q) := by
  cases h : hasU l m with
  | true =>
    obtain ⟨hp, he⟩ := has_yes ha h
    rw [add_yes h]
    exact ascU_set ha hp (by unfold kb keyU; rw [he])
  | false =>
    rw [add_no h]
    exact ascU_put (e := (m, q)) ha (has_no_kb h)
theorem add_len {l : List U} {m : ByteArray} {q : Int} : (addU l m q).length ≤ l.length + 1 := by
  unfold addU
  split
  · rw [List.length_set]; omega
  · have := pos_le keyU m.data.toList l
    simp; omega
theorem add_mem {l : List U} {m : ByteArray} {q : Int} {u : U} (h : u ∈ addU l m q) : u ∈ l ∨ u = (m, lkU l m + q) := by
  unfold addU at h
  split at h
  · rcases List.mem_or_eq_of_mem_set h with h | h
    · exact .inl h
    · exact .inr h
  · rcases List.mem_append.1 h with h | h
    · exact .inl (List.mem_of_mem_take h)
    · rcases List.mem_cons.1 h with h | h
      · exact .inr h
      · exact .inl (List.mem_of_mem_drop h)
theorem lk_bound {l : List U} {m : ByteArray} {M : Int} (ha : Asc keyU l) (h0 : 0 ≤ M) (h : ∀ u ∈ l, 0 ≤ u.2 ∧ u.2 ≤ M) : 0 ≤ lkU l m ∧ lkU l m ≤ M := by
  cases hh : hasU l m with
  | true =>
    obtain ⟨hp, _⟩ := has_yes ha hh
    rw [lk_yes hh]
    exact h _ (by simp [List.getD, hp])
  | false => rw [lk_no hh]; omega

theorem look_DU {l : List U} (ha : Asc keyU l) (m : ByteArray) : (DM keyU valU l).atKey (.string m.data.toList) (.held (.int .i64 0)) = .held (.int .i64 (lkU l m)) := by
  cases h : hasU l m with
  | true =>
    obtain ⟨hp, he⟩ := has_yes ha h
    have := atKey_hit keyU valU (.held (.int .i64 0)) l (posU l m) hp ha
    have e2 : kb keyU l[posU l m] = m.data.toList := by unfold kb keyU; rw [he]
    rw [e2] at this
    rw [this, lk_yes h]
    simp [List.getD, hp]
  | false =>
    rw [atKey_miss keyU valU _ l (has_no_kb h), lk_no h]
theorem put_DU {l : List U} (ha : Asc keyU l) (m : ByteArray) (q : Int) : (DM keyU valU l).put (.string m.data.toList) (.held (.int .i64 (lkU l m + q))) = DM keyU valU (addU l m q) := by
  cases h : hasU l m with
  | true =>
    obtain ⟨hp, he⟩ := has_yes ha h
    rw [add_yes h]
    exact put_old keyU valU l (m, lkU l m + q) (posU l m) hp ha (by unfold kb keyU; rw [he])
  | false =>
    rw [add_no h, lk_no h, Int.zero_add]
    exact put_new keyU valU l (m, q) (has_no_kb h)

theorem sums_step {l : List E} {k : Nat} (hk : k < l.length) : sums (l.take (k + 1)) = addU (sums (l.take k)) (l.getD k E0).2.1 (l.getD k E0).2.2 := by
  unfold sums sumsFrom
  have : l.take (k + 1) = l.take k ++ [l.getD k E0] := by rw [List.take_add_one, List.getElem?_eq_getElem hk]; simp [List.getD, hk]
  rw [this, List.foldl_append]
  rfl
theorem sums_asc (l : List E) : ∀ k, k ≤ l.length → Asc keyU (sums (l.take k)) := by
  intro k
  induction k with
  | zero => intro _; simp [sums, sumsFrom, Asc]
  | succ k ih =>
    intro hk
    rw [sums_step (by omega)]
    exact add_asc (ih (by omega))
theorem sums_len (l : List E) : ∀ k, k ≤ l.length → (sums (l.take k)).length ≤ k := by
  intro k
  induction k with
  | zero => intro _; simp [sums, sumsFrom]
  | succ k ih =>
    intro hk
    rw [sums_step (by omega)]
    exact Nat.le_trans add_len (by have := ih (by omega); omega)
theorem sums_bound (l : List E) (hq : ∀ u ∈ l, 0 ≤ u.2.2 ∧ u.2.2 ≤ 1000000000) : ∀ k, k ≤ l.length → ∀ u ∈ sums (l.take k), 0 ≤ u.2 ∧ u.2 ≤ (k : Int) * 1000000000 := by
  intro k
  induction k with
  | zero => intro _ u hu; simp [sums, sumsFrom] at hu
  | succ k ih =>
    intro hk u hu
    rw [sums_step (by omega)] at hu
    have hb := ih (by omega)
    have hx : 0 ≤ (l.getD k E0).2.2 ∧ (l.getD k E0).2.2 ≤ 1000000000 := hq _ (by simp [List.getD, (by omega : k < l.length)])
    rcases add_mem hu with h | rfl
    · have := hb u h
      omega
    · have := lk_bound (m := (l.getD k E0).2.1) (sums_asc l k (by omega)) (by omega) hb
      simp only
      omega
theorem sums_size (l : List E) (hs : ∀ u ∈ l, u.2.1.size ≤ maxLen) : ∀ k, k ≤ l.length → ∀ u ∈ sums (l.take k), u.1.size ≤ maxLen := by
  intro k
  induction k with
  | zero => intro _ u hu; simp [sums, sumsFrom] at hu
  | succ k ih =>
    intro hk u hu
    rw [sums_step (by omega)] at hu
    rcases add_mem hu with h | rfl
    · exact ih (by omega) u h
    · exact hs _ (by simp [List.getD, (by omega : k < l.length)])
theorem okB_qty {l : List E} (h : Evs.okB l = true) : ∀ u ∈ l, 0 ≤ u.2.2 ∧ u.2.2 ≤ 1000000000 := by
  intro u hu
  obtain ⟨k, hk, rfl⟩ := List.getElem_of_mem hu
  have := Evs.okB_right h hk
  have hg : l.getD k E0 = l[k] := by simp [List.getD, hk]
  rw [hg] at this
  unfold Evs.rightE at this
  simp only [Bool.and_eq_true, decide_eq_true_eq] at this
  exact this.2.2
/-- what UseSums answers -/
def sumsO (l : List E) : List U := if Evs.okB l = true then sums l else []
end Go.Proofs.YtnchgeiinkaefaaGreatDoor.Sums
end

section
/-
  What impl.ascending hands out for a map of numbers: its entries in the order of their keys, for every loop body that keeps what it must.
-/
namespace Go.Proofs.YtnchgeiinkaefaaGreatDoor.Sums
set_option linter.unusedVariables false
open Go.RowKit Go.Maps MapM Go.Shelf
open Uses (U U0)
open Evs (E E0 hide unhide RV law KpB below_trans below_grown enc_key)

attribute [local go_sem] Oper.semAt_some

/-- the map of sums as read -/
abbrev DU (l : List U) : DataW Value := DM keyU valU l
/-- block b is the map of the sums l -/
def UM (W : World) (b : Nat) (l : List U) : Prop := W.ownsMap Tryz.prog 9 RV b l.length (DU l)
theorem UM.kept {W W' : World} {b : Nat} {l : List U} (h : UM W b l) (hb : Below W.heap.size W W') : UM W' b l :=
  World.ownsMap.kept (row := none) h ⟨hb.os, hb.tape, hb.output, hb.size, fun j hj _ => hb.block j hj⟩ (by simp)
theorem UM.lt {W : World} {b : Nat} {l : List U} (h : UM W b l) : b < W.heap.size := World.ownsMap.lt h
theorem UM.keptK {B : Nat} {W W' : World} {b : Nat} {l : List U} (h : UM W b l) (hk : KpB B W W') (hb : b < B) : UM W' b l := by
  obtain ⟨es, clock, hb', F, hs, hD⟩ := h
  exact ⟨es, clock, hk.same b _ hb' (.inl hb), F, hs, hD⟩

/-- the keys in memory -/
def KC (W : World) (bk : Nat) (l : List U) : Prop := ∀ i, i < l.length → W.cell? ⟨bk, i, none⟩ = some (.string (l.getD i U0).1)

theorem keys_row {W : World} {base : Nat} {v : Value} {l : List U} (ha : Asc keyU l) {ss : List (List UInt8)} (hp : ss.Perm (strKeys (DU l))) (h : W.ownsRow base 9 1 v ss.length ((ss.mergeSort (fun x y => decide (x ≤ y))).map encStr)) :
    (l = [] ∧ v = .slice none 0 0) ∨ ∃ bk cap, v = .slice (some ⟨bk, 0, none⟩) l.length cap ∧ base ≤ bk ∧ bk < W.heap.size ∧ KC W bk l := by
  rw [keys_DM] at hp
  rw [sorted_keys keyU ha hp] at h
  have hlen : ss.length = l.length := by have := hp.length_eq; simpa using this
  obtain ⟨h1, h2⟩ := h
  rcases h2 with ⟨rfl, hn⟩ | ⟨g, cap, cur, rfl, hb, hg, hc1, hc2, hc3, hc4⟩
  · refine .inl ⟨List.length_eq_zero_iff.1 (by omega), rfl⟩
  · refine .inr ⟨g, cap, by rw [hlen], hb, ?_, fun i hi => ?_⟩
    · refine Nat.lt_of_not_le fun hle => ?_
      rw [Array.getElem?_eq_none hle] at hg; simp at hg
    · have e2 : cur[i]? = some (encStr (kb keyU (l.getD i U0))) := by
        have e1 : (cur.toList.take (ss.length * 1))[i]? = some (encStr (kb keyU (l.getD i U0))) := by
          rw [hc4]
          simp [List.getD, hi]
        rw [List.getElem?_take_of_lt (by omega)] at e1
        simpa using e1
      simp only [World.cell?, hg]
      rw [← enc_key]
      simpa using e2

theorem lkU_at {l : List U} (ha : Asc keyU l) {k : Nat} (hk : k < l.length) : lkU l (l.getD k U0).1 = (l.getD k U0).2 := by
  have hg : l.getD k U0 = l[k] := by simp [List.getD, hk]
  rw [hg]
  have hp : posU l l[k].1 = k := posU_hit ha hk
  rw [lk_yes (has_at hk rfl), hp, hg]
theorem zeroI (w : World) : (zeroValue 3).run Tryz.prog w = .ok (.int .i64 0) w := by kernel_rfl
theorem look1_run {w : World} {b : Nat} {n : Nat} {l : List U} {t : TypeId} {s : ByteArray} (ht : Tryz.prog.underlying t = some (.map 9 3)) (h : w.ownsMap Tryz.prog 9 RV b n (DU l)) (ha : Asc keyU l) (hs : s.size ≤ maxLen) :
    (Instr.lookup t (.map (some b)) (.string s) false).run Tryz.prog w = .ok (.int .i64 (lkU l s)) w := by
  obtain ⟨v, ps, hrun, hv⟩ := World.ownsMap.lookup h law ht (zeroI w) (zd := .held (.int .i64 0)) (zp := []) rfl (key := .string s) (WideMaps.keyOf_string_mk Tryz.underlying9 hs)
  rw [look_DU ha s] at hv
  simp only [RV, Option.some.injEq, Prod.mk.injEq, DataW.held.injEq] at hv
  rw [hv.1] at hrun
  exact hrun
theorem take_step {l : List U} {k : Nat} (hk : k < l.length) : l.take k ++ [l.getD k U0] = l.take (k + 1) := by
  rw [List.take_add_one, List.getElem?_eq_getElem hk]; simp [List.getD, hk]

set_option maxRecDepth 100000 in
set_option maxHeartbeats 2000000 in
theorem asc1 (n : Nat) (hn : 1 ≤ n) (lp Bm B b : Nat) (l : List U) (ha : Asc keyU l) (hl : l.length ≤ 1048576) (hs : ∀ u ∈ l, u.1.size ≤ maxLen) (J Jx : List U → World → Prop)
    (W : World) (hbB : b < B) (hBm : B + 2 ≤ Bm) (hBs : Bm < W.heap.size) (hJa : AbidesFrom W.heap.size J)
    (hY : ∀ pre x W1, J pre W1 → pre.length < l.length → YieldAt Fence.wide (n - 1) Tryz.prog lp #[.string x.1, valU x] W1 fun e W' =>
      (e = .returned (.bool true) ∧ J (pre ++ [x]) W' ∧ KpB B W1 W') ∨ (e = .returned (.bool false) ∧ Jx (pre ++ [x]) W'))
    (hc : W.cell? ⟨Bm, 0, none⟩ = some (.map (some b))) (hm : UM W b l) (h0 : J [] W) :
    CallsIn Fence.wide n Tryz.prog 99 #[.func (.yield lp) #[] #[], .pointer (some ⟨Bm, 0, none⟩)] W fun e W' => (∃ v, e = .returned v) ∧
      ((∃ ys, ys = l ∧ J ys W') ∨ (∃ pre, pre <+: l ∧ Jx pre W')) := by
  have HJ := hide hJa
  have HY := hide hY
  have H0 := hide h0
  have HA := hide ha
  have HM := hide hm
  have HS := hide hs
  clear hJa hY h0 ha hm hs
  refine callsIn_of_wp Tryz.func99 rfl trivial ?_ rfl
  simp only [Tryz.ntmps99, List.size_toArray, List.length_cons, List.length_nil, Nat.reduceAdd, Nat.reduceSub, Array.replicate_succ, Array.replicate_zero, List.push_toArray, List.append_toArray, List.nil_append, List.cons_append]
  gi_wp2_with (fail)
  refine ⟨trivial, (callsIn_wide.2 (callsIn_wide.1 (Tryz.maps_Keys_101 (some b) _))).mono ?_⟩
  rintro e w1 ⟨rfl, rfl⟩
  gi_wp2_with (fail)
  refine ⟨trivial, (callsIn_wide.2 (callsIn_wide.1 (Tryz.slices_Sorted_keys_100_101 b l.length (DU l) RV W (unhide HM) (by rw [size_DM]; unfold maxLen; omega) (by rw [size_DM]; omega)))).mono ?_⟩
  rintro e w2 ⟨v, ss, rfl, hS, hrow, hnil, hb2⟩
  have hbb : Below W.heap.size W w2 := below_trans ((Below.refl _ _).alloc (Nat.le_refl _) _) hb2
  have hkr := keys_row (unhide HA) hS hrow
  have c1 : w2.cell? ⟨Bm, 0, none⟩ = some (.map (some b)) := (hbb.cell (p := ⟨Bm, 0, none⟩) hBs).trans hc
  have HM2 := hide ((unhide HM).kept hbb)
  have HJ2 := hide (unhide HJ [] W w2 none (unhide H0) (below_grown hbb none) (by simp))
  have hsz2 : W.heap.size ≤ w2.heap.size := hbb.size
  clear hb2 hbb hS hrow hnil HM H0 hc
  rcases hkr with ⟨rfl, rfl⟩ | ⟨bk, cap, rfl, hbk, hbks, hkc⟩
  · gi_wp2
    gi_loopw [9] (fun i wr => i = .int .i64 0 ∧ Hid (J [] wr)) (fun i _ => 0)
    case atStart => exact ⟨rfl, HJ2⟩
    case round =>
      obtain ⟨rfl, hJs⟩ := hrel
      gi_wp2
      go_end0
      exact ⟨⟨_, rfl⟩, .inl ⟨_, rfl, unhide hJs⟩⟩
  · rw [World.size_alloc] at hbk
    have HKC := hide hkc
    clear hkc
    gi_wp2
    gi_loopw [9] (fun i wr => ∃ (k : Nat), k ≤ l.length ∧ i = .int .i64 k ∧ Hid (J (l.take k) wr) ∧ Hid (KC wr bk l) ∧ Hid (UM wr b l) ∧ wr.cell? ⟨Bm, 0, none⟩ = some (.map (some b)) ∧ W.heap.size ≤ wr.heap.size) (fun i _ => l.length - (intOf i).toNat)
    case atStart => exact ⟨0, Nat.zero_le _, rfl, HJ2, HKC, HM2, c1, hsz2⟩
    case round =>
      obtain ⟨k, hk, rfl, hJs, hkc, hmr, hcb, hsr⟩ := hrel
      by_cases hlt : k < l.length
      · have c0 := unhide hkc k hlt
        have hsz : (l.getD k U0).1.size ≤ maxLen := unhide HS _ (by simp [List.getD, hlt])
        have i1 : (0 : Int) ≤ (k : Int) := by omega
        have i2 : (k : Int) < (l.length : Int) := by omega
        have hlk := look1_run Tryz.underlying116 (unhide hmr) (unhide HA) hsz
        rw [lkU_at (unhide HA) hlt] at hlk
        obtain ⟨fn, tmps, assign, body, hy, hR⟩ := unhide HY (l.take k) (l.getD k U0) wr (unhide hJs) (by simp; omega)
        have HT := hide (take_step hlt)
        generalize l.getD k U0 = x at *
        obtain ⟨s, q⟩ := x
        dsimp only at hy c0 hlk
        have HR := hide hR
        clear hR
        gi_wp2
        refine (unhide HR).mono ?_
        rintro e W3 (⟨rfl, hJ3, hk3⟩ | ⟨rfl, hJx3⟩)
        · have HJ3 := hide hJ3
          rw [unhide HT] at HJ3
          have HK3 : Hid (KC W3 bk l) := hide (fun i hi => hk3.cell (unhide hkc i hi) (.inr (by omega)))
          have HM3 := hide ((unhide hmr).keptK hk3 hbB)
          have c3 := hk3.cell hcb (.inr hBm)
          have z3 := Nat.le_trans hsr hk3.size
          clear hJ3 hk3 hy
          gi_wp2
          go_roundw
          case rel => exact ⟨k + 1, by omega, by go_num, HJ3, HK3, HM3, c3, z3⟩
          case measure => simp [intOf]; omega
        · have HJ3 := hide hJx3
          rw [unhide HT] at HJ3
          clear hJx3 hy
          gi_wp2
          refine bodyPost_ret (results_none rfl _ _ _) rfl ?_
          exact ⟨⟨_, rfl⟩, .inr ⟨_, List.take_prefix _ _, unhide HJ3⟩⟩
      · obtain rfl : k = l.length := by omega
        rw [List.take_length] at hJs
        gi_wp2
        go_end0
        exact ⟨⟨_, rfl⟩, .inl ⟨_, rfl, unhide hJs⟩⟩

/-- what ascending hands out, as a loop over it wants it -/
theorem asc_stops (n : Nat) (hn : 1 ≤ n) (Bm B b : Nat) (l : List U) (ha : Asc keyU l) (hl : l.length ≤ 1048576) (hs : ∀ u ∈ l, u.1.size ≤ maxLen) (w : World) (hbB : b < B) (hBm : B + 2 ≤ Bm) (hBs : Bm < w.heap.size)
    (hc : w.cell? ⟨Bm, 0, none⟩ = some (.map (some b))) (hm : UM w b l) :
    SeqStopsK Fence.wide n Tryz.prog 99 #[.pointer (some ⟨Bm, 0, none⟩)] (fun x : U => #[Value.string x.1, valU x]) (KpB B) (fun ys => ys = l) (fun pre => pre <+: l) l.length w :=
  fun lp J Jx W hW hJ _ hY h0 =>
    asc1 n hn lp Bm B b l ha hl hs J Jx W hbB hBm (Nat.lt_of_lt_of_le hBs hW.size) hJ hY ((hW.cell (p := ⟨Bm, 0, none⟩) hBs).trans hc) (hm.kept hW) h0

/-- impl.ascending -/
theorem ascI (n : Nat) (b : Nat) (w : World) :
    CallsIn Fence.wide n Tryz.prog 66 #[.map (some b)] w fun e w' => e = .returned (.func (.func 99) #[] #[.pointer (some ⟨w.heap.size, 0, none⟩)]) ∧ w' = w.alloc (.cells #[.map (some b)] 116) := by
  refine callsIn_of_wp Tryz.func66 rfl trivial ?_ rfl
  simp only [Tryz.ntmps66, List.size_toArray, List.length_cons, List.length_nil, Nat.reduceAdd, Nat.reduceSub, Array.replicate_succ, Array.replicate_zero, List.push_toArray, List.append_toArray, List.nil_append, List.cons_append]
  gi_wp2
  go_ret
  exact ⟨rfl, rfl⟩
end Go.Proofs.YtnchgeiinkaefaaGreatDoor.Sums
end

section
/-
  spec.UseSums: what it answers.
-/
namespace Go.Proofs.YtnchgeiinkaefaaGreatDoor.Sums
set_option linter.unusedVariables false
open Go.RowKit Go.Maps MapM
open Uses (U U0 UOwn UC UR)
open Evs (E E0 hide unhide below_trans below_drewN' ER EC ltS ltS_iff)

theorem UR.drop {W : World} {b c : Nat} {l : List U} (h : UC W b 0 l) (p : Nat) (hp : p ≤ l.length) (c' : Nat) : UR W (.slice (some ⟨b, 0 + p * 2, none⟩) (l.length - p) c') (l.drop p) := by
  refine .inr ⟨b, 0 + p * 2, c', by simp, h.1, fun i hi => ?_⟩
  have hi' : p + i < l.length := by simp at hi; omega
  have e : (l.drop p).getD i U0 = l.getD (p + i) U0 := by simp [List.getD]
  have e2 : 0 + p * 2 + i * 2 = 0 + (p + i) * 2 := by omega
  rw [e, e2]
  exact h.2 (p + i) hi'
theorem run_dropU {w : World} {b : Nat} {l : List U} {p vc : Nat} (h : UC w b 0 l) (hp : p ≤ l.length) (hv : l.length ≤ vc) :
    ∃ a' c', (Instr.sliceAt 48 (.slice (some ⟨b, 0, none⟩) l.length vc) (some (.int .i64 (p : Int))) none none).run Tryz.prog w = .ok (.slice a' (l.length - p) c') w ∧ UR w (.slice a' (l.length - p) c') (l.drop p) := by
  have h0 : (0 : Int) ≤ (p : Int) := by omega
  have h1 : (p : Int) ≤ (l.length : Int) := by omega
  have h2 : (p : Int) ≤ (vc : Int) := by omega
  by_cases hpv : vc = p
  · have hlp : l.length = p := by omega
    subst hpv
    refine ⟨some ⟨b, 0, none⟩, 0, ?_, .inl ⟨by rw [List.drop_eq_nil_iff]; omega, _, _, by rw [hlp, Nat.sub_self]⟩⟩
    rw [hlp]
    go_simp
  · have := UR.drop (c := 0) h p hp (vc - p)
    rw [Nat.zero_add] at this
    exact ⟨some ⟨b, p * 2, none⟩, vc - p, by go_simp, this⟩
theorem wpList_dropU {ops : Array Oper} {o : Oper} {a : Act} {Q : Exit → Act → World → Prop} {w : World} {rest : List Oper} (hgd : o.guard = none) (s x : Operand) (ho : o.op = Op.slice 48 s (some x) none none)
    (b : Nat) (l : List U) (p vc n : Nat) (hn : n = l.length) (hs : a.eval s = .slice (some ⟨b, 0, none⟩) n vc) (hx : a.eval x = .int .i64 (p : Int)) (h : UC w b 0 l) (hp : p ≤ l.length) (hv : l.length ≤ vc)
    (hK : ∀ a' c', UR w (.slice a' (l.length - p) c') (l.drop p) → wpList Tryz.prog ops Q rest (a.put o.dst (.slice a' (l.length - p) c')) w) : wpList Tryz.prog ops Q (o :: rest) a w := by
  subst hn
  refine wpList_plain hgd fun K' hK' => ?_
  obtain ⟨a', c', hr, h2⟩ := run_dropU h hp hv
  unfold Oper.wp execOp
  simp only [ho, hs, hx, Option.map_some, Option.map_none, Sem.run_bind, hr, Result.andThen_ok, Sem.run_pure]
  exact hK' _ _ (hK a' c' h2)

theorem XU.mk0 {w : World} {B b : Nat} (hB : B ≤ w.heap.size) (hb : w.heap.size = b) : XU (w.alloc (.cells #[] 73)) B b 0 [] := by
  rw [← hb]; exact XU.made w B hB _ rfl
theorem srcNewU (w : World) (s : ByteArray) (q : Int) : UR (w.alloc (.cells #[.string s, .int .i64 q] 73)) (.slice (some ⟨w.heap.size, 0, none⟩) 1 1) [(s, q)] := by
  have e1 := (MapKept.heap_alloc w (.cells #[.string s, .int .i64 q] 73)).1
  refine .inr ⟨w.heap.size, 0, 1, rfl, by simp, fun i hi => ?_⟩
  have : i = 0 := by simpa using hi
  subst this
  simp only [World.cell?]
  rw [e1]
  exact ⟨rfl, rfl⟩

theorem below_drew1 {B : Nat} {a w : World} (h : Below B a w) : Below B a w.drew := ⟨h.os, h.tape, h.output, h.size, h.block⟩
theorem srcNU {w : World} {N : Nat} (hN : w.heap.size = N) (s : ByteArray) (q : Int) : UR (w.alloc (.cells #[.string s, .int .i64 q] 73)) (.slice (some ⟨N, 0, none⟩) 1 1) [(s, q)] := by
  rw [← hN]; exact srcNewU w s q
theorem XU.up {w : World} {B b c n : Nat} {l : List U} {o : Obj} (h : XU w B b c l) : XU ((w.drewN n).alloc o) B b c l := h.kept (Evs.growB ((below_drewN' (Below.refl _ _) n).alloc (by simp) _) none) (by simp)
theorem UR.grown1 {W W' : World} {B b c g : Nat} {l : List U} (h : XU W B b c l) (hg : W.grownBy W' (some g)) (hne : b ≠ g) {n : Nat} (hn : n = l.length) : UR W' (.slice (some ⟨b, 0, none⟩) n c) l := by
  subst hn
  exact (h.kept hg (by simpa using hne)).ur

/-- where the walk along the sums stands still -/
theorem posU_at {l : List U} {m : ByteArray} {k : Nat} (hk : k ≤ l.length) (h1 : ∀ i, i < k → ltS (l.getD i U0).1 m = true) (h2 : k < l.length → ltS (l.getD k U0).1 m = false) : posU l m = k := by
  refine pos_of keyU hk (fun i hi hik => ?_) (fun hn => ?_)
  · have := ltS_iff.1 (h1 i hik)
    simpa [List.getD, hi] using this
  · intro hlt
    have h3 := h2 hn
    have : ltS (l.getD k U0).1 m = true := ltS_iff.2 (by simpa [List.getD, hn] using hlt)
    rw [this] at h3
    simp at h3
theorem has_of {l : List U} {m : ByteArray} (ha : Asc keyU l) {k : Nat} (hp : posU l m = k) (hk : k < l.length) : hasU l m = decide ((l.getD k U0).1 = m) := by
  have hg : l.getD k U0 = l[k] := by simp [List.getD, hk]
  rw [hg]
  by_cases h : l[k].1 = m
  · rw [has_at hk h, decide_eq_true h]
  · rw [decide_eq_false h]
    cases hh : hasU l m with
    | false => rfl
    | true =>
      obtain ⟨hp', he⟩ := has_yes ha hh
      simp only [hp] at he
      exact absurd he h
theorem has_end {l : List U} {m : ByteArray} (ha : Asc keyU l) (hp : posU l m = l.length) : hasU l m = false := by
  cases hh : hasU l m with
  | false => rfl
  | true =>
    obtain ⟨hp', _⟩ := has_yes ha hh
    omega
/-- the new one is laid in, then it takes what is added -/
theorem add_laid {l : List U} {m : ByteArray} {q : Int} (h : hasU l m = false) : (l.take (posU l m) ++ [(m, 0)] ++ l.drop (posU l m)).set (posU l m) (m, 0 + q) = addU l m q := by
  have hp := pos_le keyU m.data.toList l
  rw [add_no h, List.append_assoc, List.set_append_right _ _ (by rw [List.length_take]; exact Nat.min_le_left _ _)]
  have : posU l m - (l.take (posU l m)).length = 0 := by
    rw [List.length_take]
    have : posU l m ≤ l.length := hp
    omega
  rw [this]
  simp

set_option maxRecDepth 100000 in
set_option maxHeartbeats 4000000 in
/-- spec.UseSums -/
theorem useSumsS (v : Value) (l : List E) (w : World) (h : ER w v l) (hl : l.length ≤ 1048576) (hs : ∀ u ∈ l, u.1.size ≤ maxLen ∧ u.2.1.size ≤ maxLen) :
    Calls Tryz.prog 21 #[v] w fun e w' => ∃ v', e = .returned v' ∧ UN w.heap.size w' v' (sumsO l) ∧ Below w.heap.size w w' := by
  have hb0 : Below w.heap.size w (w.alloc (.cells #[] 73)) := (Below.refl _ _).alloc (Nat.le_refl _) _
  have H := hide (h.kept hb0)
  have HS := hide hs
  obtain ⟨a, c, rfl⟩ := h.slice
  have hcase : l.length = 0 ∨ ∃ b o, a = some ⟨b, o, none⟩ ∧ EC w b o l := by
    rcases h with ⟨rfl, _⟩ | ⟨b, o, cap, hv, hc⟩
    · exact .inl rfl
    · simp only [Value.slice.injEq] at hv
      exact .inr ⟨b, o, hv.1, hc⟩
  clear h hs
  cases hok : Evs.okB l with
  | false =>
    have e1 : sumsO l = [] := by unfold sumsO; rw [hok]; rfl
    rw [e1]
    clear hcase
    go_enter Tryz.func21, Tryz.ntmps21
    go_wp2_with (fail)
    refine (Evs.okS _ l _ (unhide H) hl (unhide HS)).mono ?_
    rintro e w3 ⟨rfl, hb3⟩
    rw [hok]
    have B3 := hide (below_trans hb0 hb3)
    clear hb3
    go_wp2
    go_ret
    exact ⟨_, rfl, .inl ⟨rfl, _, _, rfl⟩, unhide B3⟩
  | true =>
    have e1 : sumsO l = sums l := by unfold sumsO; rw [hok]; rfl
    rw [e1]
    clear e1
    have hl20 := Evs.okB_len hok
    have HQ := hide (sums_bound l (okB_qty hok))
    have HQ2 := hide (okB_qty hok)
    have HAs := hide (sums_asc l)
    have HLn := hide (sums_len l)
    have X0 := hide (XU.made w w.heap.size (Nat.le_refl _) 73 rfl)
    rcases hcase with h0 | ⟨b, o, rfl, hc⟩
    · obtain rfl : l = [] := List.length_eq_zero_iff.1 h0
      clear h0 HQ HQ2 HAs HLn X0
      go_enter Tryz.func21, Tryz.ntmps21
      go_wp2_with (fail)
      refine (Evs.okS _ [] _ (unhide H) hl (unhide HS)).mono ?_
      rintro e w3 ⟨rfl, hb3⟩
      rw [hok]
      have B3 := hide (below_trans hb0 hb3)
      clear hb3
      go_wp2
      refine wp_loop_rounds 1 ?_
      rw [rounds_succ]
      go_wp2
      go_ret
      exact ⟨_, rfl, .inl ⟨rfl, _, _, rfl⟩, unhide B3⟩
    · have HC := hide hc
      have hbs := hc.1
      clear hc
      go_enter Tryz.func21, Tryz.ntmps21
      go_wp2_with (fail)
      refine (Evs.okS _ l _ (unhide H) hl (unhide HS)).mono ?_
      rintro e w1 ⟨rfl, hb1⟩
      rw [hok]
      have B1 := hide (below_trans hb0 hb1)
      have X1 := hide ((unhide X0).kept (Evs.growB hb1 none) (by simp))
      clear hb1 hok X0 hb0
      go_wp2_with (fail)
      go_loopw [3, 4] (fun to ti wr => ∃ i g c' : Nat, i ≤ l.length ∧ ti = .int .i64 i ∧ to = .slice (some ⟨g, 0, none⟩) (sums (l.take i)).length c' ∧ Hid (XU wr w.heap.size g c' (sums (l.take i))) ∧ Hid (Below w.heap.size w wr)) (fun _ ti _ => l.length - (intOf ti).toNat)
      case atStart => exact ⟨0, w.heap.size, 0, Nat.zero_le _, rfl, rfl, X1, B1⟩
      case round =>
        obtain ⟨i, g, c', hi, rfl, rfl, hX, hB⟩ := hrel
        clear X1 B1
        by_cases hlt : i < l.length
        · have HST := hide (sums_step hlt)
          have hSl := unhide HLn i hi
          have HSA := hide (unhide HAs i hi)
          have HSQ := hide (unhide HQ i hi)
          obtain ⟨q0, q1⟩ : 0 ≤ (l.getD i E0).2.2 ∧ (l.getD i E0).2.2 ≤ 1000000000 := unhide HQ2 _ (by simp [List.getD, hlt])
          have HCC : Hid (∀ W, Below w.heap.size w W → W.cell? ⟨b, o + i * 3 + 1, none⟩ = some (.string (l.getD i E0).2.1) ∧ W.cell? ⟨b, o + i * 3 + 2, none⟩ = some (.int .i64 (l.getD i E0).2.2)) := hide (fun W hW => (((unhide HC).kept hW).2 i hlt).2)
          have i1 : (0 : Int) ≤ (i : Int) := by omega
          have i2 : (i : Int) < (l.length : Int) := by omega
          generalize sums (l.take i) = S at *
          generalize (l.getD i E0).2.1 = m at *
          generalize (l.getD i E0).2.2 = q at *
          go_wp2
          go_loopw [5] (fun t wr2 => ∃ k : Nat, k ≤ S.length ∧ t = .int .i64 k ∧ Hid (∀ j, j < k → ltS (S.getD j U0).1 m = true) ∧ Hid (XU wr2 w.heap.size g c' S) ∧ Hid (Below w.heap.size w wr2)) (fun t _ => S.length - (intOf t).toNat)
          case atStart => exact ⟨0, Nat.zero_le _, rfl, hide (fun j hj => by omega), hX, hB⟩
          case round =>
            obtain ⟨k, hk, rfl, hlo, hX2, hB2⟩ := hrel
            clear hX hB
            have hcap := (unhide hX2).cap
            have hgw := (unhide hX2).own.1
            obtain ⟨l1, l2⟩ := unhide HCC _ (unhide hB2)
            by_cases hkl : k < S.length
            · obtain ⟨s0, s1⟩ := (unhide hX2).own.2.1.2 k hkl
              have f1 := (unhide hX2).own.2.2 (k * 2 + 1)
              rw [Nat.zero_add] at s0 s1
              have k1 : (0 : Int) ≤ (k : Int) := by omega
              have k2 : (k : Int) < (S.length : Int) := by omega
              have k3 : ((k : Int) == (S.length : Int)) = false := by simp; omega
              cases hls : ltS (S.getD k U0).1 m with
              | true =>
                have hlo2 : Hid (∀ j, j < k + 1 → ltS (S.getD j U0).1 m = true) := hide (fun j hj => by
                  by_cases e : j = k
                  · subst e; exact hls
                  · exact unhide hlo j (by omega))
                clear hlo
                generalize (S.getD k U0).1 = sk at *
                generalize (S.getD k U0).2 = sq at *
                go_wp2
                go_quiet (fail)
                go_wp2
                exact ⟨⟨k + 1, by omega, by go_num, hlo2, hide ((unhide hX2).kept (Evs.growB (below_drewN' (Below.refl _ _) _) none) (by simp)), hide (below_drewN' (unhide hB2) _)⟩, by simp [intOf]; omega⟩
              | false =>
                have HP : Hid (posU S m = k) := hide (posU_at hk (unhide hlo) (fun _ => hls))
                have HHA := hide (has_of (unhide HSA) (unhide HP) hkl)
                have qb : 0 ≤ (S.getD k U0).2 ∧ (S.getD k U0).2 ≤ (i : Int) * 1000000000 := unhide HSQ _ (by simp [List.getD, hkl])
                by_cases hm : (S.getD k U0).1 = m
                · have hyes : Hid (hasU S m = true) := hide ((unhide HHA).trans (decide_eq_true hm))
                  have HX3 : Hid (∀ n, XU ((wr.drewN n).setCell ⟨g, k * 2 + 1, none⟩ (.int .i64 ((S.getD k U0).2 + q))) w.heap.size g c' (addU S m q)) := hide (fun n => by
                    have hX3 := ((unhide hX2).kept (Evs.growB (below_drewN' (Below.refl _ _) n) none) (by simp)).setQ hkl ((S.getD k U0).2 + q)
                    rw [hm] at hX3
                    rw [add_yes (unhide hyes), lk_yes (unhide hyes), unhide HP]; exact hX3)
                  have HLE : Hid ((addU S m q).length = S.length) := hide (by rw [add_yes (unhide hyes), List.length_set])
                  rw [hm] at s0 hls
                  have mm : (!m.toList == m.toList) = false := by simp
                  clear HHA hm hyes hlo
                  generalize (S.getD k U0).2 = r at *
                  go_wp2
                  go_quiet (fail)
                  go_wp2
                  go_quiet (fail)
                  go_wp2
                  go_region
                  go_wp2
                  exact ⟨⟨i + 1, g, c', by omega, by go_num, by rw [unhide HST, unhide HLE], by rw [unhide HST]; exact hide (unhide HX3 _), hide ((below_drewN' (unhide hB2) _).setCell (p := ⟨g, k * 2 + 1, none⟩) hgw _)⟩, by simp [intOf]; omega⟩
                · have hno : Hid (hasU S m = false) := hide ((unhide HHA).trans (decide_eq_false hm))
                  have mm : ((S.getD k U0).1.toList == m.toList) = false := by
                    rw [beq_eq_false_iff_ne]; intro e; exact hm (Uses.ext_toList e)
                  have HLE : Hid ((addU S m q).length = S.length + 1) := hide (by
                    rw [← add_laid (unhide hno), unhide HP]; simp; omega)
                  have HAD := hide (add_laid (q := q) (unhide hno))
                  rw [unhide HP] at HAD
                  clear HHA hm hlo hno
                  generalize (S.getD k U0).1 = sk at *
                  generalize (S.getD k U0).2 = sq at *
                  have kc : (k : Int) ≤ (c' : Int) := by omega
                  go_wp2
                  go_quiet (fail)
                  go_wp2
                  go_quiet (fail)
                  go_wp2_with (first | (refine wpList_dropU rfl _ _ rfl g S k c' S.length rfl rfl rfl ((unhide hX2).kept (Evs.growB ((below_drewN' (Below.refl wr.heap.size wr) _).alloc (by simp) _) none) (by simp)).own.2.1 hk hcap ?_; intro a8 c8 h8; have H8 := hide h8; clear h8) | (at_builtin; refine listAppU _ rfl _ _ rfl w.heap.size wr.heap.size 0 0 [] (S.drop k) _ rfl rfl (XU.mk0 (by simpa using (unhide hB2).size) (by simp)) rfl (unhide H8) (by simp; omega) (by simpa using Nat.le_succ_of_le (unhide hB2).size) ?_; intro b2 k2 w2 hx2 hg2 hat2 hlt2; have X2 := hide hx2; have G2 := hide hg2; clear hx2 hg2) | fail)
                  have BW : Below wr.heap.size wr w2 := ((below_drewN' (Below.refl wr.heap.size wr) _).alloc (by simp) _).grown (unhide G2) (by simp) (fun j hj => by cases hj; exact Nat.le_refl _)
                  have X3 := hide ((unhide hX2).kept (Evs.growB BW none) (by simp))
                  have B3 := hide (below_trans (unhide hB2) BW)
                  have hgl := (unhide hX2).own.2.1.1
                  have hb2 : b2 ≠ g ∧ w.heap.size ≤ b2 := by
                    have := (unhide hB2).size
                    rcases hat2 with rfl | rfl
                    · omega
                    · simp; omega
                  have m1 := (unhide HCC _ (unhide B3)).1
                  rw [List.nil_append] at X2
                  have hln2 : (S.drop k).length = S.length - k := List.length_drop
                  clear G2 hat2 hlt2 hX2 hB2 l1 l2 H8 BW
                  have ml : ∀ n, (w2.drewN n).cell? ⟨b, o + i * 3 + 1, none⟩ = some (.string m) := fun n => m1
                  go_wp2
                  go_region_law (first
                    | (refine stepAppU _ rfl _ _ rfl w.heap.size b7 c7 (k + 1) (S.take k ++ [(m, 0)]) (S.drop k) _ (by simp; omega) (by first | rfl | simp) hx7 rfl (UR.grown1 (XU.up (unhide X2)) hg7 hb2.1 (by first | rfl | omega | simp)) (by simp; omega) (Nat.le_trans (Nat.le_trans (unhide B3).size (by simp)) hg7.size) ?_; intro b8 c8' w8 hx8 hg8 hat8 hlt8)
                    | (refine stepAppU _ rfl _ _ rfl w.heap.size g c' k (S.take k) [(m, 0)] _ (by simp; omega) (by first | rfl | simp) ((XU.up (unhide X3)).take k hk) rfl (srcNU (by simp) m 0) (by simp; omega) (Nat.le_trans (unhide B3).size (by simp)) ?_; intro b7 c7 w7 hx7 hg7 hat7 hlt7))
                  have hb7 : w.heap.size ≤ b7 := hx7.own.1
                  have B8 : Hid (Below w.heap.size w w8) := hide (((below_drew1 ((unhide B3).alloc (unhide B3).size _)).grown hg7 (by have := (unhide B3).size; simp; omega) (fun j hj => by cases hj; exact hgw)).grown hg8 (Nat.le_trans (Nat.le_trans (unhide B3).size (by simp)) hg7.size) (fun j hj => by cases hj; exact hb7))
                  have hlen8 : (S.take k ++ [(m, (0 : Int))] ++ S.drop k).length = S.length + 1 := by simp; omega
                  have hk8 : k < (S.take k ++ [(m, (0 : Int))] ++ S.drop k).length := by omega
                  have hgd : (S.take k ++ [(m, (0 : Int))] ++ S.drop k).getD k U0 = (m, 0) := by
                    have e1 : (S.take k).length = k := by simp; omega
                    rw [List.getD, List.append_assoc, List.getElem?_append_right (by omega), e1, Nat.sub_self]
                    rfl
                  have HX9 : Hid (∀ n, XU ((w8.drewN n).setCell ⟨b8, k * 2 + 1, none⟩ (.int .i64 (0 + q))) w.heap.size b8 c8' (addU S m q)) := hide (fun n => by
                    have hX3 := (hx8.kept (Evs.growB (below_drewN' (Below.refl _ _) n) none) (by simp)).setQ hk8 (0 + q)
                    rw [hgd, unhide HAD] at hX3
                    exact hX3)
                  obtain ⟨_, s1⟩ := hx8.own.2.1.2 k hk8
                  have f1 := hx8.own.2.2 (k * 2 + 1)
                  rw [hgd, Nat.zero_add] at s1
                  have m2 := (unhide HCC _ (unhide B8)).2
                  have hb8 : w.heap.size ≤ b8 := hx8.own.1
                  have hn8 : k + 1 + (S.length - k) = S.length + 1 := by omega
                  have k5 : (k : Int) < ((S.length + 1 : Nat) : Int) := by omega
                  rw [Int.zero_add] at HX9
                  rw [hn8]
                  clear hx7 hg7 hat7 hlt7 hx8 hg8 hat8 hlt8 X2 X3 B3 m1 ml hgd hk8 hlen8 HAD hn8
                  go_wp2
                  go_region
                  go_wp2
                  exact ⟨⟨i + 1, b8, c8', by omega, by go_num, by rw [unhide HST, unhide HLE], by rw [unhide HST]; exact hide (unhide HX9 _), hide ((below_drewN' (unhide B8) _).setCell (p := ⟨b8, k * 2 + 1, none⟩) hb8 _)⟩, by simp [intOf]; omega⟩
            · have k1 : (0 : Int) ≤ (k : Int) := by omega
              have k2' : decide ((k : Int) < (S.length : Int)) = false := by simp; omega
              have k3 : ((k : Int) == (S.length : Int)) = true := by simp; omega
              have HP : Hid (posU S m = k) := hide (posU_at hk (unhide hlo) (fun h => absurd h hkl))
              have hke : k = S.length := by omega
              have hno : Hid (hasU S m = false) := hide (has_end (unhide HSA) ((unhide HP).trans hke))
              have HLE : Hid ((addU S m q).length = S.length + 1) := hide (by
                rw [← add_laid (unhide hno), unhide HP]; simp; omega)
              have HAD := hide (add_laid (q := q) (unhide hno))
              rw [unhide HP] at HAD
              clear hlo hno hke
              have kc : (k : Int) ≤ (c' : Int) := by omega
              go_wp2
              go_quiet (fail)
              go_wp2
              go_quiet (fail)
              go_wp2_with (first | (refine wpList_dropU rfl _ _ rfl g S k c' S.length rfl rfl rfl ((unhide hX2).kept (Evs.growB ((below_drewN' (Below.refl wr.heap.size wr) _).alloc (by simp) _) none) (by simp)).own.2.1 hk hcap ?_; intro a8 c8 h8; have H8 := hide h8; clear h8) | (at_builtin; refine listAppU _ rfl _ _ rfl w.heap.size wr.heap.size 0 0 [] (S.drop k) _ rfl rfl (XU.mk0 (by simpa using (unhide hB2).size) (by simp)) rfl (unhide H8) (by simp; omega) (by simpa using Nat.le_succ_of_le (unhide hB2).size) ?_; intro b2 k2 w2 hx2 hg2 hat2 hlt2; have X2 := hide hx2; have G2 := hide hg2; clear hx2 hg2) | fail)
              have BW : Below wr.heap.size wr w2 := ((below_drewN' (Below.refl wr.heap.size wr) _).alloc (by simp) _).grown (unhide G2) (by simp) (fun j hj => by cases hj; exact Nat.le_refl _)
              have X3 := hide ((unhide hX2).kept (Evs.growB BW none) (by simp))
              have B3 := hide (below_trans (unhide hB2) BW)
              have hgl := (unhide hX2).own.2.1.1
              have hb2 : b2 ≠ g ∧ w.heap.size ≤ b2 := by
                have := (unhide hB2).size
                rcases hat2 with rfl | rfl
                · omega
                · simp; omega
              have m1 := (unhide HCC _ (unhide B3)).1
              rw [List.nil_append] at X2
              have hln2 : (S.drop k).length = S.length - k := List.length_drop
              clear G2 hat2 hlt2 hX2 hB2 l1 l2 H8 BW
              have ml : ∀ n, (w2.drewN n).cell? ⟨b, o + i * 3 + 1, none⟩ = some (.string m) := fun n => m1
              go_wp2
              go_region_law (first
                | (refine stepAppU _ rfl _ _ rfl w.heap.size b7 c7 (k + 1) (S.take k ++ [(m, 0)]) (S.drop k) _ (by simp; omega) (by first | rfl | simp) hx7 rfl (UR.grown1 (XU.up (unhide X2)) hg7 hb2.1 (by first | rfl | omega | simp)) (by simp; omega) (Nat.le_trans (Nat.le_trans (unhide B3).size (by simp)) hg7.size) ?_; intro b8 c8' w8 hx8 hg8 hat8 hlt8)
                | (refine stepAppU _ rfl _ _ rfl w.heap.size g c' k (S.take k) [(m, 0)] _ (by simp; omega) (by first | rfl | simp) ((XU.up (unhide X3)).take k hk) rfl (srcNU (by simp) m 0) (by simp; omega) (Nat.le_trans (unhide B3).size (by simp)) ?_; intro b7 c7 w7 hx7 hg7 hat7 hlt7))
              have hb7 : w.heap.size ≤ b7 := hx7.own.1
              have B8 : Hid (Below w.heap.size w w8) := hide (((below_drew1 ((unhide B3).alloc (unhide B3).size _)).grown hg7 (by have := (unhide B3).size; simp; omega) (fun j hj => by cases hj; exact hgw)).grown hg8 (Nat.le_trans (Nat.le_trans (unhide B3).size (by simp)) hg7.size) (fun j hj => by cases hj; exact hb7))
              have hlen8 : (S.take k ++ [(m, (0 : Int))] ++ S.drop k).length = S.length + 1 := by simp; omega
              have hk8 : k < (S.take k ++ [(m, (0 : Int))] ++ S.drop k).length := by omega
              have hgd : (S.take k ++ [(m, (0 : Int))] ++ S.drop k).getD k U0 = (m, 0) := by
                have e1 : (S.take k).length = k := by simp; omega
                rw [List.getD, List.append_assoc, List.getElem?_append_right (by omega), e1, Nat.sub_self]
                rfl
              have HX9 : Hid (∀ n, XU ((w8.drewN n).setCell ⟨b8, k * 2 + 1, none⟩ (.int .i64 (0 + q))) w.heap.size b8 c8' (addU S m q)) := hide (fun n => by
                have hX3 := (hx8.kept (Evs.growB (below_drewN' (Below.refl _ _) n) none) (by simp)).setQ hk8 (0 + q)
                rw [hgd, unhide HAD] at hX3
                exact hX3)
              obtain ⟨_, s1⟩ := hx8.own.2.1.2 k hk8
              have f1 := hx8.own.2.2 (k * 2 + 1)
              rw [hgd, Nat.zero_add] at s1
              have m2 := (unhide HCC _ (unhide B8)).2
              have hb8 : w.heap.size ≤ b8 := hx8.own.1
              have hn8 : k + 1 + (S.length - k) = S.length + 1 := by omega
              have k5 : (k : Int) < ((S.length + 1 : Nat) : Int) := by omega
              rw [Int.zero_add] at HX9
              rw [hn8]
              clear hx7 hg7 hat7 hlt7 hx8 hg8 hat8 hlt8 X2 X3 B3 m1 ml hgd hk8 hlen8 HAD hn8
              go_wp2
              go_region
              go_wp2
              exact ⟨⟨i + 1, b8, c8', by omega, by go_num, by rw [unhide HST, unhide HLE], by rw [unhide HST]; exact hide (unhide HX9 _), hide ((below_drewN' (unhide B8) _).setCell (p := ⟨b8, k * 2 + 1, none⟩) hb8 _)⟩, by simp [intOf]; omega⟩
        · obtain rfl : i = l.length := by omega
          rw [List.take_length] at hX ⊢
          go_wp2
          go_ret
          exact ⟨_, rfl, .inr ⟨g, c', rfl, ⟨(unhide hX).own.1, (unhide hX).cap⟩, (unhide hX).own.2⟩, unhide hB⟩
end Go.Proofs.YtnchgeiinkaefaaGreatDoor.Sums
end
