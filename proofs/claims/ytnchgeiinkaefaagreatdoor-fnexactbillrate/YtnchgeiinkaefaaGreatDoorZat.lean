/-
  Texts of this proof laid together, in build order; each says of itself what it holds.
-/
import Derived.Test.YtnchgeiinkaefaaGreatDoorProg
import Derived.WalkKit
import Derived.WalkLawsBesides
import Derived.Below
import Derived.Deep.QuietTactic
import Derived.BigQuiet
import Derived.Deep.RegionHeld
import Derived.Deep.DeepMust
import Derived.Shelf.SlSortCmp.WholeK
import Derived.Test.YtnchgeiinkaefaaGreatDoorZai
import Derived.Test.YtnchgeiinkaefaaGreatDoorZas
import Derived.Test.YtnchgeiinkaefaaGreatDoorZab
import Derived.Test.YtnchgeiinkaefaaGreatDoorZaj
import Derived.Test.YtnchgeiinkaefaaGreatDoorZaa
import Derived.Test.YtnchgeiinkaefaaGreatDoorZak
import Derived.RangeFuncNested
import Derived.RangeFuncBound
import Derived.RangeFuncCalls
import Derived.RangeFuncLeaves
import Derived.Shelf.Abstract
import Derived.Shelf.RegionOpen
import Derived.OwnWalkIn
import Derived.TacticsInMore
import Derived.LoopNIn
import Derived.LoopIn
section
/-
  The order of the shares (impl.greaterRest): the greater rest first, of equal ones the earlier place.
-/
namespace Go.Proofs.YtnchgeiinkaefaaGreatDoor.Share
set_option linter.unusedVariables false
open Go.RowKit Go.Sort

def cmpI (x y : Int) : Int := if x < y then -1 else if y < x then 1 else 0

theorem compare (x y : Int) (w : World) : Calls Tryz.prog 132 #[.int .i64 x, .int .i64 y] w fun e w' => e = .returned (.int .i64 (cmpI x y)) ∧ w' = w := by
  by_cases h1 : x < y
  · have e : cmpI x y = -1 := by simp [cmpI, h1]
    rw [e]
    go_enter Tryz.func132, Tryz.ntmps132
    go_wp2
    go_ret
    exact ⟨rfl, rfl⟩
  · by_cases h2 : y < x
    · have e : cmpI x y = 1 := by simp [cmpI, h1, h2]
      rw [e]
      go_enter Tryz.func132, Tryz.ntmps132
      go_wp2
      go_ret
      exact ⟨rfl, rfl⟩
    · have e : cmpI x y = 0 := by simp [cmpI, h1, h2]
      rw [e]
      go_enter Tryz.func132, Tryz.ntmps132
      go_wp2
      go_ret
      exact ⟨rfl, rfl⟩

def orI (x y : Int) : Int := if x = 0 then y else x

theorem orInt (x y : Int) (b : Nat) (w : World) (c0 : w.cell? ⟨b, 0, none⟩ = some (.int .i64 x)) (c1 : w.cell? ⟨b, 1, none⟩ = some (.int .i64 y)) :
    Calls Tryz.prog 131 #[.slice (some ⟨b, 0, none⟩) 2 2] w fun e w' => e = .returned (.int .i64 (orI x y)) ∧ w' = w := by
  by_cases hx : x = 0
  · have hx' : (x != 0) = false := by simpa using hx
    have e : orI x y = y := by simp [orI, hx]
    rw [e]
    clear e hx
    by_cases hy : y = 0
    · have hy' : (y != 0) = false := by simpa using hy
      subst hy
      go_enter Tryz.func131, Tryz.ntmps131
      go_wp2
      refine wp_loop_rounds 3 ?_
      rw [rounds_succ]
      go_wp2
      rw [rounds_succ]
      go_wp2
      rw [rounds_succ]
      go_wp2
      go_ret
      exact ⟨rfl, rfl⟩
    · have hy' : (y != 0) = true := by simpa using hy
      go_enter Tryz.func131, Tryz.ntmps131
      go_wp2
      refine wp_loop_rounds 3 ?_
      rw [rounds_succ]
      go_wp2
      rw [rounds_succ]
      go_wp2
      go_ret
      exact ⟨rfl, rfl⟩
  · have hx' : (x != 0) = true := by simpa using hx
    have e : orI x y = x := by simp [orI, hx]
    rw [e]
    clear e hx
    go_enter Tryz.func131, Tryz.ntmps131
    go_wp2
    refine wp_loop_rounds 3 ?_
    rw [rounds_succ]
    go_wp2
    go_ret
    exact ⟨rfl, rfl⟩

/-- a share: its place, its part, its rest -/
abbrev Sh : Type := Int × Int × Int
def encSh (x : Sh) : List Value := [.int .i64 x.1, .int .i64 x.2.1, .int .i64 x.2.2]
def cmpSh (x y : Sh) : Int := orI (cmpI y.2.2 x.2.2) (cmpI x.1 y.1)

theorem third (w : World) (o1 o2 : Obj) (C : Array Value) (t : TypeId) (j : Nat) : (((w.alloc o1).alloc o2).alloc (.cells C t)).drew.cell? ⟨w.heap.size + 1 + 1, j, none⟩ = C[j]? := by
  have e1 := (MapKept.heap_alloc ((w.alloc o1).alloc o2) (.cells C t)).1
  have e2 : ((w.alloc o1).alloc o2).heap.size = w.heap.size + 1 + 1 := by simp
  rw [e2] at e1
  show (((w.alloc o1).alloc o2).alloc (.cells C t)).cell? _ = _
  simp only [World.cell?]
  rw [e1]; simp

/-- the world has new blocks and draws alone -/
def Gr (w w' : World) : Prop := ∃ q os', w' = grow (w.drewN q) os'

theorem gr3 (w : World) (o1 o2 o3 : Obj) : Gr w (((w.alloc o1).alloc o2).alloc o3).drew := ⟨1, #[o1, o2, o3], by
  show World.drew _ = _
  rw [alloc_eq_grow, alloc_eq_grow, alloc_eq_grow, grow_grow, grow_grow]; rfl⟩

set_option maxHeartbeats 1000000 in
theorem greater (x1 x2 x3 y1 y2 y3 : Int) (w : World) : Calls Tryz.prog 106 #[.agg #[.int .i64 x1, .int .i64 x2, .int .i64 x3], .agg #[.int .i64 y1, .int .i64 y2, .int .i64 y3]] w fun e w' => e = .returned (.int .i64 (orI (cmpI y3 x3) (cmpI x1 y1))) ∧ Gr w w' := by
  have t0 : (((w.alloc (.cells #[.int .i64 x1, .int .i64 x2, .int .i64 x3] 127)).alloc (.cells #[.int .i64 y1, .int .i64 y2, .int .i64 y3] 127)).alloc (.cells #[.int .i64 (cmpI y3 x3), .int .i64 (cmpI x1 y1)] 3)).drew.cell? ⟨w.heap.size + 1 + 1, 0, none⟩ = some (.int .i64 (cmpI y3 x3)) := third w _ _ _ _ 0
  have t1 : (((w.alloc (.cells #[.int .i64 x1, .int .i64 x2, .int .i64 x3] 127)).alloc (.cells #[.int .i64 y1, .int .i64 y2, .int .i64 y3] 127)).alloc (.cells #[.int .i64 (cmpI y3 x3), .int .i64 (cmpI x1 y1)] 3)).drew.cell? ⟨w.heap.size + 1 + 1, 1, none⟩ = some (.int .i64 (cmpI x1 y1)) := third w _ _ _ _ 1
  have HOR : Hid (Calls Tryz.prog 131 _ _ _) := orInt (cmpI y3 x3) (cmpI x1 y1) _ _ t0 t1
  clear t0 t1
  go_enter Tryz.func106, Tryz.ntmps106
  go_wp2
  go_region_held (fun w' => w'.cell? ⟨w.heap.size, 0, none⟩ = some (.int .i64 x1) ∧ w'.cell? ⟨w.heap.size, 2, none⟩ = some (.int .i64 x3) ∧ w'.cell? ⟨w.heap.size + 1, 0, none⟩ = some (.int .i64 y1) ∧ w'.cell? ⟨w.heap.size + 1, 2, none⟩ = some (.int .i64 y3)) (go_keep) (first | (go_at_call 132; refine (compare _ _ _).mono ?_; rintro e w' ⟨rfl, rfl⟩) | (go_at_call 131; refine Calls.mono HOR.out ?_; rintro e w' ⟨rfl, rfl⟩))
  go_wp2
  go_ret
  exact ⟨rfl, gr3 w _ _ _⟩

theorem cmpLays (blk off size : Nat) (w : World) : CmpLays Tryz.prog 106 #[] encSh 3 cmpSh blk off size w :=
  fun _ _ _ _ x y => greater x.1 x.2.1 x.2.2 y.1 y.2.1 y.2.2 _

/-- is x ahead of y? -/
def ahead (x y : Sh) : Bool := decide (y.2.2 < x.2.2) || (decide (x.2.2 = y.2.2) && decide (x.1 < y.1))

theorem ltSh (x y : Sh) : ltOf cmpSh x y = ahead x y := by
  unfold ltOf cmpSh orI cmpI ahead
  by_cases h1 : y.2.2 < x.2.2
  · simp [h1]
  · by_cases h2 : x.2.2 < y.2.2
    · have : ¬ x.2.2 = y.2.2 := by omega
      simp [h1, h2, this]
    · have e : x.2.2 = y.2.2 := by omega
      by_cases h3 : x.1 < y.1
      · simp [e, h3]
      · by_cases h4 : y.1 < x.1
        · simp [e, h3, h4]
        · simp [e, h3, h4]

theorem swo : SWO (ltOf cmpSh) where
  irrefl x := by rw [ltSh]; simp [ahead]
  trans x y z h1 h2 := by rw [ltSh] at *; simp [ahead] at *; omega
  ntrans x y z h1 h2 := by rw [ltSh] at *; simp [ahead] at *; omega
end Go.Proofs.YtnchgeiinkaefaaGreatDoor.Share
end

section
/-
  The plain law of dealing: in the sorted row the place of each share is the number of those ahead of it.
-/
namespace Go.Proofs.YtnchgeiinkaefaaGreatDoor.Share
set_option linter.unusedVariables false
open Go.RowKit Ints Go.Sort

theorem count_at {α : Type} (p : α → Bool) (l : List α) (i : Nat) (hi : i ≤ l.length) (h1 : ∀ j x, l[j]? = some x → j < i → p x = true) (h2 : ∀ j x, l[j]? = some x → i ≤ j → p x = false) : l.countP p = i := by
  rw [← List.take_append_drop i l, List.countP_append]
  have e1 : (l.take i).countP p = i := by
    have : (l.take i).length = i := by simp; omega
    conv => rhs; rw [← this]
    rw [List.countP_eq_length]
    intro x hx
    obtain ⟨j, hj⟩ := List.mem_iff_getElem?.1 hx
    rw [List.getElem?_take] at hj
    by_cases hji : j < i
    · rw [if_pos hji] at hj; exact h1 j x hj hji
    · rw [if_neg hji] at hj; cases hj
  have e2 : (l.drop i).countP p = 0 := by
    rw [List.countP_eq_zero]
    intro x hx
    obtain ⟨j, hj⟩ := List.mem_iff_getElem?.1 hx
    rw [List.getElem?_drop] at hj
    rw [h2 _ x hj (by omega)]; simp
  rw [e1, e2]; omega

/-- the shares by place -/
def shL (P R : List Int) (n : Nat) : List Sh := (List.range n).map fun (p : Nat) => ((p : Int), P.getD p 0, R.getD p 0)

theorem ahead_tri (x y : Sh) (h : x.1 ≠ y.1) (h2 : ahead y x = false) : ahead x y = true := by
  unfold ahead at *
  by_cases h1 : y.2.2 < x.2.2
  · simp [h1]
  · by_cases h3 : x.2.2 = y.2.2
    · simp [h3] at h2 ⊢; omega
    · simp at h2; omega

theorem ahead_irr (x : Sh) : ahead x x = false := by simp [ahead]

/-- the place in the sorted row -/
theorem rank (P R : List Int) (n : Nat) (l : List Sh) (hp : l.Perm (shL P R n)) (hs : ∀ (i j : Nat) (x y : Sh), i < j → l[i]? = some x → l[j]? = some y → ahead y x = false) (i : Nat) (x : Sh) (hx : l[i]? = some x) :
    ∃ p : Nat, p < n ∧ x = ((p : Int), P.getD p 0, R.getD p 0) ∧ cnt R p n = i := by
  have hm : x ∈ shL P R n := hp.mem_iff.1 (List.mem_of_getElem? hx)
  unfold shL at hm
  obtain ⟨p, hpn, rfl⟩ := List.mem_map.1 hm
  have hpn' := List.mem_range.1 hpn
  refine ⟨p, hpn', rfl, ?_⟩
  have hnd : (l.map (·.1)).Nodup := by
    have h1 : ((shL P R n).map (·.1)).Nodup := by
      unfold shL
      rw [List.map_map]
      rw [List.nodup_iff_pairwise_ne, List.pairwise_map]
      exact List.Pairwise.imp (fun {a b} (h : a < b) => by simp; omega) List.pairwise_lt_range
    exact (hp.map _).nodup_iff.2 h1
  have hne : ∀ j y, l[j]? = some y → j ≠ i → y.1 ≠ (p : Int) := by
    intro j y hy hji he
    have e1 : (l.map (·.1))[j]? = some (p : Int) := by rw [List.getElem?_map, hy]; simp [he]
    have e2 : (l.map (·.1))[i]? = some (p : Int) := by rw [List.getElem?_map, hx]; rfl
    have hl : j < (l.map (·.1)).length := by
      rcases Nat.lt_or_ge j (l.map (·.1)).length with h | h
      · exact h
      · rw [List.getElem?_eq_none h] at e1; cases e1
    exact hji ((List.getElem?_inj hl hnd).1 (e1.trans e2.symm))
  have hc : l.countP (fun y => ahead y ((p : Int), P.getD p 0, R.getD p 0)) = i := by
    apply count_at
    · rcases Nat.lt_or_ge i l.length with h | h
      · omega
      · rw [List.getElem?_eq_none h] at hx; cases hx
    · intro j y hy hji
      exact ahead_tri _ _ (hne j y hy (by omega)) (hs j i y _ hji hy hx)
    · intro j y hy hij
      by_cases e : j = i
      · subst e
        rw [hx] at hy; cases hy
        exact ahead_irr _
      · exact hs i j _ _ (by omega) hx hy
  rw [hp.countP_eq] at hc
  rw [← hc]
  unfold cnt shL
  rw [List.countP_map]
  apply List.countP_congr
  intro q hq
  simp [moreB, ahead, Function.comp]

/-- the parts as the loop lays them -/
def layV (l : List Sh) (L : Int) (n : Nat) : Nat → List Int
  | 0 => List.replicate n 0
  | k + 1 => match l[k]? with
    | some x => (layV l L n k).set x.1.toNat (x.2.1 + if (k : Int) < L then 1 else 0)
    | none => layV l L n k
theorem lay_len (l : List Sh) (L : Int) (n : Nat) : ∀ k, (layV l L n k).length = n
  | 0 => by simp [layV]
  | k + 1 => by
    unfold layV
    split
    · rw [List.length_set]; exact lay_len l L n k
    · exact lay_len l L n k
theorem lay_step (l : List Sh) (L : Int) (n k : Nat) (x : Sh) (h : l[k]? = some x) : layV l L n (k + 1) = (layV l L n k).set x.1.toNat (x.2.1 + if (k : Int) < L then 1 else 0) := by
  rw [layV, h]

theorem lay_all (P R : List Int) (n : Nat) (l : List Sh) (L : Int) (F : Nat → Int) (hF : ∀ i, F i = P.getD i 0 + if (cnt R i n : Int) < L then 1 else 0) (hp : l.Perm (shL P R n)) (hs : ∀ (i j : Nat) (x y : Sh), i < j → l[i]? = some x → l[j]? = some y → ahead y x = false) :
    layV l L n n = (List.range n).map F := by
  have hlen : l.length = n := by rw [hp.length_eq]; simp [shL]
  have key : ∀ k, k ≤ n → ∀ i x, i < k → l[i]? = some x → (layV l L n k).getD x.1.toNat 0 = x.2.1 + if (i : Int) < L then 1 else 0 := by
    intro k
    induction k with
    | zero => intro _ i x hi; omega
    | succ k ih =>
      intro hk i x hi hx
      obtain ⟨y, hy⟩ : ∃ y, l[k]? = some y := ⟨l[k]'(by omega), List.getElem?_eq_getElem (by omega)⟩
      rw [lay_step l L n k y hy]
      obtain ⟨p, hpn, rfl, hpc⟩ := rank P R n l hp hs i x hx
      obtain ⟨q, hqn, rfl, hqc⟩ := rank P R n l hp hs k y hy
      simp only [Int.toNat_natCast]
      by_cases e : i = k
      · subst e
        rw [hx] at hy
        have hpq : p = q := by
          have h9 : (p : Int) = q := by simpa using congrArg (fun z => z.map (·.1)) hy
          omega
        subst hpq
        rw [List.getD_eq_getElem?_getD, List.getElem?_set_self (by rw [lay_len]; exact hpn)]; rfl
      · have hpq : q ≠ p := fun e2 => by subst e2; omega
        have := ih (by omega) i _ (by omega) hx
        simp only [Int.toNat_natCast] at this
        rw [List.getD_eq_getElem?_getD, List.getElem?_set_ne hpq, ← List.getD_eq_getElem?_getD, this]
  apply getD_eq (by rw [lay_len]; simp)
  intro p hp2
  rw [lay_len] at hp2
  have hm : ((p : Int), P.getD p 0, R.getD p 0) ∈ l := hp.mem_iff.2 (List.mem_map.2 ⟨p, List.mem_range.2 hp2, rfl⟩)
  obtain ⟨i, hi⟩ := List.mem_iff_getElem?.1 hm
  have hil : i < n := by
    rcases Nat.lt_or_ge i l.length with h | h
    · omega
    · rw [List.getElem?_eq_none h] at hi; cases hi
  have := key n (Nat.le_refl _) i _ hil hi
  simp only [Int.toNat_natCast] at this
  rw [this]
  obtain ⟨q, hqn, hq, hqc⟩ := rank P R n l hp hs i _ hi
  have hpq : p = q := by
    have h9 : (p : Int) = q := by have := congrArg (·.1) hq; simpa using this
    omega
  subst hpq
  simp [List.getD, hp2]
  rw [hF, hqc]
  simp [List.getD]
end Go.Proofs.YtnchgeiinkaefaaGreatDoor.Share
end

section
/-
  dealLeft: the sort, and the parts by place.
-/
namespace Go.Proofs.YtnchgeiinkaefaaGreatDoor.Share
set_option linter.unusedVariables false
open Go.RowKit Ints Go.Sort Go.Shelf

def ShSorted (l : List Sh) : Prop := ∀ (i j : Nat) (x y : Sh), i < j → l[i]? = some x → l[j]? = some y → ahead y x = false

theorem sort_grown (w : World) (blk n : Nat) (d' : Array Sh) (os : Array Obj) : w.grownBy (sortWorldK encSh 3 w blk 0 n d' os) (some blk) := by
  refine ⟨rfl, rfl, rfl, size_sortWorldK_c encSh 3 w blk 0 n d' os, ?_⟩
  intro j hj hne
  unfold sortWorldK putRowK putRow mapBlock grow Sort.ahead
  have hne' : ¬ blk = j := fun e => hne (by rw [e])
  show (Array.modify w.heap blk _ ++ os)[j]? = w.heap[j]?
  rw [Array.getElem?_append_left (by simpa using hj), Array.getElem?_modify, if_neg hne']

theorem getBang {l : List Sh} {i : Nat} {x : Sh} (h : l[i]? = some x) : l.toArray[i]! = x := by
  have : l.toArray[i]? = some x := by simpa using h
  rw [getElem!_def, this]

theorem sortD (blk cap n : Nat) (l0 : List Sh) (w : World) (hn : l0.length = n) (hH : HoldsK encSh 3 w blk 0 l0.toArray) (hb : blk < w.heap.size) (hs : n ≤ 16) :
    Calls Tryz.prog 105 #[.slice (some ⟨blk, 0, none⟩) n cap, .func (.func 106) #[] #[]] w fun e w' => e = .returned (.tuple #[]) ∧ ∃ l : List Sh, l.Perm l0 ∧ ShSorted l ∧ HoldsK encSh 3 w' blk 0 l.toArray ∧ w.grownBy w' (some blk) := by
  subst hn
  have h := AnyQ.slices_SortFunc Tryz.sortShare 3 Tryz.isAgg127 Tryz.sizeOf127 encSh (fun x => rfl) (fun x v hv => by simp [encSh] at hv; rcases hv with rfl | rfl | rfl <;> rfl) cmpSh swo 106 #[] blk 0 cap l0.toArray w (enters_of Tryz.func106 (by kernel_rfl) rfl) (cmpLays blk 0 _ w) hH hb (by simp; omega)
  have e : l0.toArray.size = l0.length := by simp
  rw [e] at h
  refine Calls.mono h ?_
  rintro e w' ⟨rfl, d', n, os, ⟨h1, _, h2⟩, h3, rfl⟩
  have hsz : d'.size = l0.length := by simpa using h1
  refine ⟨rfl, d'.toList, ?_, ?_, ?_, sort_grown w blk n d' os⟩
  · have e1 : d'.extract 0 l0.length = d' := by rw [← hsz]; simp
    have e2 : l0.toArray.extract 0 l0.length = l0.toArray := by simp
    rw [e1, e2] at h2
    exact h2
  · intro i j x y hij hx hy
    have hjl : j < l0.length := by
      rcases Nat.lt_or_ge j d'.toList.length with h | h
      · rw [Array.length_toList, hsz] at h; exact h
      · rw [List.getElem?_eq_none h] at hy; cases hy
    have := h3 i j (Nat.zero_le _) hij hjl
    rw [ltSh] at this
    have ex := getBang hx
    have ey := getBang hy
    rw [Array.toArray_toList] at ex ey
    rwa [ex, ey] at this
  · rw [Array.toArray_toList]
    exact holdsK_sortWorldK encSh 3 w blk 0 n l0.toArray d' os hb hH h1

/-- the cells of the share in place i -/
theorem shCells {w : World} {blk : Nat} {l : List Sh} (h : HoldsK encSh 3 w blk 0 l.toArray) {i : Nat} {x : Sh} (hx : l[i]? = some x) :
    w.cell? ⟨blk, i * 3, none⟩ = some (.int .i64 x.1) ∧ w.cell? ⟨blk, i * 3 + 1, none⟩ = some (.int .i64 x.2.1) ∧ w.cell? ⟨blk, i * 3 + 2, none⟩ = some (.int .i64 x.2.2) := by
  have hl : i < l.toArray.size := by
    rcases Nat.lt_or_ge i l.length with h | h
    · simpa using h
    · rw [List.getElem?_eq_none h] at hx; cases hx
  have h0 := (h.cell hl (c := 0) (by omega)).1
  have h1 := (h.cell hl (c := 1) (by omega)).1
  have h2 := (h.cell hl (c := 2) (by omega)).1
  rw [getBang hx] at h0 h1 h2
  rw [Nat.zero_add] at h0 h1 h2
  exact ⟨h0, h1, h2⟩

theorem kept_holds {w w' : World} {blk : Nat} {l : List Sh} {r : Option Nat} (h : HoldsK encSh 3 w blk 0 l.toArray) (hb : blk < w.heap.size) (hg : w.grownBy w' r) (hne : some blk ≠ r) : HoldsK encSh 3 w' blk 0 l.toArray := fun j hj => by
  have := h j hj
  rw [hg.cell_far _ hb hne, hg.frozen_far _ hb hne]
  exact this

theorem grown_but {a b : World} (h : a.grownBy b none) (r : Option Nat) : a.grownBy b r := ⟨h.os, h.tape, h.output, h.size, fun j hj _ => h.block j hj (by simp)⟩
theorem grown_new {a b c : World} {g : Nat} (h : a.grownBy b none) (k : b.grownBy c (some g)) (hg : a.heap.size ≤ g) : a.grownBy c none :=
  ⟨k.os.trans h.os, k.tape.trans h.tape, k.output.trans h.output, Nat.le_trans h.size k.size, fun j hj hne => (k.block j (Nat.lt_of_lt_of_le hj h.size) (by simp; omega)).trans (h.block j hj hne)⟩
theorem grown_sa (W : World) (g p : Nat) (u : Value) (o : Obj) : W.grownBy ((W.setCell ⟨g, p, none⟩ u).alloc o) (some g) := grown_trans (set_grown W g p u) (World.grownBy_alloc _ _ (some g))
theorem grown_ssa (W : World) (g p : Nat) (u v : Value) (o : Obj) : W.grownBy (((W.setCell ⟨g, p, none⟩ u).setCell ⟨g, p, none⟩ v).alloc o) (some g) := grown_trans (set_grown W g p u) (grown_sa _ g p v o)
theorem Cells.set0 {W : World} {b : Nat} {l : List Int} (h : Cells W b 0 l) {k : Nat} (hk : k < l.length) (x : Int) : Cells (W.setCell ⟨b, k, none⟩ (.int .i64 x)) b 0 (l.set k x) := by
  have := h.set hk x
  rwa [Nat.zero_add] at this

/-- the parts of the shares, one by one -/
theorem shAt (P R : List Int) (n k : Nat) (hk : k < n) : (shL P R n)[k]? = some ((k : Int), P.getD k 0, R.getD k 0) := by
  simp [shL, hk]

set_option maxHeartbeats 1600000 in
theorem deal (blk cap n : Nat) (P R : List Int) (T L : Int) (w : World) (hH : HoldsK encSh 3 w blk 0 (shL P R n).toArray) (hb : blk < w.heap.size) (hs : n ≤ 16) (h0 : 0 < n) (hT : 0 ≤ T) (hT' : T ≤ 1000000000000000) (hPl : P.length = n) (hTL : T - P.sum = L) (hL : -16000000000000000 ≤ L ∧ L ≤ 1000000000000000)
    (hP : ∀ j, j < n → 0 ≤ P.getD j 0 ∧ P.getD j 0 ≤ 1000000000000000) (F : Nat → Int) (hF : ∀ i, F i = P.getD i 0 + if (cnt R i n : Int) < L then 1 else 0) :
    Calls Tryz.prog 71 #[.slice (some ⟨blk, 0, none⟩) n cap, .int .i64 T] w fun e w' => ∃ g, e = .returned (.slice (some ⟨g, 0, none⟩) n n) ∧ Cells w' g 0 ((List.range n).map F) ∧ w.heap.size ≤ g ∧ w.grownBy w' (some blk) := by
  have HSO : Hid (∀ W : World, HoldsK encSh 3 W blk 0 (shL P R n).toArray → blk < W.heap.size → _) := hide (fun W h1 h2 => sortD blk cap n (shL P R n) W (by simp [shL]) h1 h2 hs)
  have hmk := run_make_row' (P := Tryz.prog) 91 3 (.int .i64 0) 8 Tryz.underlying91 info rfl .i64 .i64 n (by omega) (by omega)
  have HP := hide hP
  have HF := hide hF
  have HH0 := hide hH
  have HTL := hide hTL
  have HPL := hide hPl
  clear hP hF hH hTL hPl
  go_enter Tryz.func71, Tryz.ntmps71
  go_wp2
  go_loopw [5, 14] (fun l i wr => ∃ k : Nat, k ≤ n ∧ i = .int .i64 k ∧ l = .int .i64 (T - (P.take k).sum) ∧ Hid (HoldsK encSh 3 wr blk 0 (shL P R n).toArray) ∧ w.grownBy wr none) (fun _ i _ => n - (intOf i).toNat)
  case atStart => exact ⟨0, Nat.zero_le _, rfl, by simp, HH0, World.grownBy.refl _ _⟩
  case round =>
    obtain ⟨k, hk, rfl, rfl, D, hgr0⟩ := hrel
    have hsb := sum_bd' P 1000000000000000 k (fun j hj => unhide HP j (by omega)) (by have := unhide HPL; omega)
    have hgs0 := hgr0.size
    by_cases hlt : k < n
    · obtain ⟨c0, c1, c2⟩ := shCells (unhide D) (shAt P R n k hlt)
      have hPb := unhide HP k hlt
      have HS1 := hide (sum_take P k (by have := unhide HPL; omega))
      generalize P.getD k 0 = p at *
      generalize R.getD k 0 = r at *
      generalize (P.take k).sum = y at *
      go_wp2
      exact ⟨⟨k + 1, by omega, by go_num, by rw [unhide HS1]; go_num, kept_holds (unhide D) (by omega) (World.grownBy_alloc _ _ none) (by simp), grown_trans hgr0 (World.grownBy_alloc _ _ none)⟩, by simp [intOf]; omega⟩
    · have eP : P.take k = P := List.take_of_length_le (by have := unhide HPL; omega)
      rw [eP, unhide HTL]
      have hbr : blk < wr.heap.size := Nat.lt_of_lt_of_le hb hgs0
      have hso := unhide HSO wr (unhide D) hbr
      clear HSO HTL eP hsb D HH0
      go_wp2_with (first | (go_at_call 105; refine hso.mono ?_; rintro e w1 ⟨rfl, l, hp, hsd, hH1, hg1⟩; clear hso))
      have LA := hide (lay_all P R n l L F (unhide HF) hp hsd)
      have RK : Hid (∀ (i : Nat) (x : Sh), l[i]? = some x → ∃ p : Nat, p < n ∧ x = ((p : Int), P.getD p 0, R.getD p 0) ∧ cnt R p n = i) := fun i x hx => rank P R n l hp hsd i x hx
      have hlen : l.length = n := by rw [hp.length_eq]; simp [shL]
      have hb1 : blk < w1.heap.size := Nat.lt_of_lt_of_le hbr hg1.size
      have hsz := hg1.size
      have HH := hide hH1
      have HLn := hide hlen
      clear hp hsd hH1 hlen HF hmk
      go_loopw [30] (fun i wr => ∃ k : Nat, k ≤ n ∧ i = .int .i64 k ∧ Hid (Cells wr w1.heap.size 0 (layV l L n k)) ∧ Hid (HoldsK encSh 3 wr blk 0 l.toArray) ∧ w1.grownBy wr none) (fun i _ => n - (intOf i).toNat)
      case atStart => exact ⟨0, Nat.zero_le _, rfl, Cells.made w1 n _, kept_holds (unhide HH) hb1 (World.grownBy_alloc _ _ none) (by simp), World.grownBy_alloc _ _ none⟩
      case round =>
        obtain ⟨k, hk, rfl, D1, D2, hgr⟩ := hrel
        by_cases hlt : k < n
        · obtain ⟨x, hx⟩ : ∃ x, l[k]? = some x := ⟨l[k]'(by have := unhide HLn; omega), List.getElem?_eq_getElem (by have := unhide HLn; omega)⟩
          obtain ⟨p, hpn, rfl, _⟩ := unhide RK k x hx
          obtain ⟨c0, c1, c2⟩ := shCells (unhide D2) hx
          have LS := lay_step l L n k _ hx
          have hPb := unhide HP p hpn
          have hpl : p < (layV l L n k).length := by rw [lay_len]; exact hpn
          have hu := (unhide D1).2 p hpl
          rw [Nat.zero_add] at hu
          obtain ⟨u1, u2⟩ := hu
          have hgs := hgr.size
          simp only [Int.toNat_natCast] at LS
          have hwl := (unhide D1).1
          by_cases hkl : (k : Int) < L
          · rw [if_pos hkl] at LS
            have HLS := hide LS
            clear LS hx
            generalize P.getD p 0 = a at *
            generalize R.getD p 0 = r at *
            generalize (layV l L n k).getD p 0 = y at *
            go_wp2
            refine ⟨⟨k + 1, by omega, by go_num, ?_, kept_holds (unhide D2) (by omega) (grown_ssa _ _ _ _ _ _) (by simp; omega), grown_new hgr (grown_ssa _ _ _ _ _ _) (Nat.le_refl _)⟩, by simp [intOf]; omega⟩
            have h9 := Cells.set0 (Cells.set0 (unhide D1) hpl a) (by rw [List.length_set]; exact hpl) (a + 1)
            rw [List.set_set, ← unhide HLS] at h9
            exact h9.kept (World.grownBy_alloc _ _ none) (by simp)
          · rw [if_neg hkl] at LS
            have HLS := hide LS
            clear LS hx
            generalize P.getD p 0 = a at *
            generalize R.getD p 0 = r at *
            generalize (layV l L n k).getD p 0 = y at *
            go_wp2
            refine ⟨⟨k + 1, by omega, by go_num, ?_, kept_holds (unhide D2) (by omega) (grown_sa _ _ _ _ _) (by simp; omega), grown_new hgr (grown_sa _ _ _ _ _) (Nat.le_refl _)⟩, by simp [intOf]; omega⟩
            have h9 := Cells.set0 (unhide D1) hpl a
            rw [Int.add_zero] at HLS
            rw [← unhide HLS] at h9
            exact h9.kept (World.grownBy_alloc _ _ none) (by simp)
        · obtain rfl : k = n := by omega
          have D3 := unhide D1
          rw [unhide LA] at D3
          go_wp2
          go_ret
          exact ⟨_, rfl, D3, Nat.le_trans hgs0 hsz, grown_trans (grown_but hgr0 (some blk)) (grown_trans hg1 (grown_but hgr (some blk)))⟩
end Go.Proofs.YtnchgeiinkaefaaGreatDoor.Share
end

section
/-
  CoinShare, the program's.
-/
namespace Go.Proofs.YtnchgeiinkaefaaGreatDoor.Share
set_option linter.unusedVariables false
open Go.RowKit Ints Go.Sort Go.Shelf Coin

theorem fitD {a b : Int} (ha : 0 ≤ a) (ha' : a ≤ 1000000000000000) (hb : 0 ≤ b) (hb' : b ≤ 1000000) (h : a * b ≤ 1000000000000000) : fitB a b = true := by
  have h1 : okB a = true := okB_true (by omega)
  have h2 : okB b = true := okB_true (by omega)
  have h3 : sz a = a := by unfold sz; omega
  have h4 : sz b = b := by unfold sz; omega
  unfold fitB; rw [h1, h2, h3, h4]
  simpa using h

theorem divD (T x S : Int) (w : World) (h0 : 0 ≤ T) (h1 : T ≤ 1000000000000000) (hx : 0 ≤ x) (hx' : x ≤ 1000000) (hxs : x ≤ S) (hs : 1 ≤ S) (hs' : S ≤ 16000000) :
    Calls Tryz.prog 68 #[.int .i64 T, .int .i64 x, .int .i64 S, .func (.func 69) #[] #[]] w fun e w' => e = .returned (.tuple #[.int .i64 (ptV T S x), .int .i64 (rsV T S x), .bool true]) ∧ ∃ k, w' = w.drewN k := by
  obtain ⟨b1, b2, b3, b4, b5, b6, b7, b8, b9, b10, b11, b12⟩ := ptBd h0 h1 hx hx' hxs hs hs'
  have hf := fitD b1 b2 hx hx' (by omega)
  have hp : okB (T / S * x + T % S * x / S) = true := okB_true (by omega)
  have s0 : ¬ S = 0 := by omega
  unfold ptV rsV
  clear hxs
  go_enter Tryz.func68, Tryz.ntmps68
  go_wp2_with (first | (go_at_call 102; refine (timesM_yes _ _ _ hf).mono ?_; rintro e w' ⟨rfl, rfl⟩))
  go_quiet ((go_at_call 69; exact Calls.quiet_of_same (rndDM _ _ _ _)))
  go_wp2_with (first | (go_at_call 72; refine (okM _ _).mono ?_; rintro e w' ⟨rfl, rfl⟩))
  go_quiet (fail)
  go_wp2
  go_ret3
  exact ⟨rfl, _, World.drewN_drewN _ _ _⟩

theorem infoSh : (Tryz.prog.info? 127).map (fun i => (i.zero, i.size, i.bytes)) = some (some (.agg #[.int .i64 0, .int .i64 0, .int .i64 0]), 3, 24) := by kernel_rfl

end Go.Proofs.YtnchgeiinkaefaaGreatDoor.Share
end

section
/-
  CoinShare, the program's: what it answers.
-/
namespace Go.Proofs.YtnchgeiinkaefaaGreatDoor.Share
set_option linter.unusedVariables false
open Go.RowKit Ints Go.Sort Go.Shelf

theorem makeSh (n : Nat) (hn : n ≤ 16) (w : World) : (Instr.makeSlice 121 (.int .i64 (n : Int)) (.int .i64 (n : Int))).run Tryz.prog w = .ok (.slice (some ⟨w.heap.size, 0, none⟩) n n) (w.alloc (.cells (madeCells #[.int .i64 0, .int .i64 0, .int .i64 0] (n * 3)) 127)) := by
  obtain ⟨i, hi, h2⟩ := Option.map_eq_some_iff.1 infoSh
  simp only [Prod.mk.injEq] at h2
  obtain ⟨hz, hs, hb⟩ := h2
  have := run_make (P := Tryz.prog) w 121 127 i _ Tryz.underlying121 hi hz .i64 .i64 n n (by omega) (by omega) (by rw [hb]; omega) (by omega)
  have e : (Value.agg #[.int .i64 0, .int .i64 0, .int .i64 0]).cells = #[.int .i64 0, .int .i64 0, .int .i64 0] := rfl
  rw [hs, e] at this
  simpa using this

/-- the row of shares in block b: f tells each -/
def SC (W : World) (b n : Nat) (f : Nat → Sh) : Prop := b < W.heap.size ∧ ∀ i, i < n → (W.cell? ⟨b, i * 3, none⟩ = some (.int .i64 (f i).1) ∧ W.cell? ⟨b, i * 3 + 1, none⟩ = some (.int .i64 (f i).2.1) ∧ W.cell? ⟨b, i * 3 + 2, none⟩ = some (.int .i64 (f i).2.2)) ∧ W.frozen? ⟨b, i * 3, none⟩ = false ∧ W.frozen? ⟨b, i * 3 + 1, none⟩ = false ∧ W.frozen? ⟨b, i * 3 + 2, none⟩ = false

theorem SC.kept {W W' : World} {b n : Nat} {f : Nat → Sh} {r : Option Nat} (h : SC W b n f) (hg : W.grownBy W' r) (hne : some b ≠ r) : SC W' b n f := by
  refine ⟨Nat.lt_of_lt_of_le h.1 hg.size, fun i hi => ?_⟩
  have := h.2 i hi
  rw [hg.cell_far _ h.1 hne, hg.cell_far _ h.1 hne, hg.cell_far _ h.1 hne, hg.frozen_far _ h.1 hne, hg.frozen_far _ h.1 hne, hg.frozen_far _ h.1 hne]
  exact this

theorem SC.holds {W : World} {b n : Nat} {f : Nat → Sh} (h : SC W b n f) : HoldsK encSh 3 W b 0 ((List.range n).map f).toArray := by
  intro j hj
  have hj' : j < n * 3 := by simpa using hj
  obtain ⟨⟨c0, c1, c2⟩, f0, f1, f2⟩ := h.2 (j / 3) (by omega)
  rw [get_flatK _ _ _ _ (by simpa using hj'), getBang (x := f (j / 3)) (by rw [List.getElem?_map, List.getElem?_range (by omega)]; rfl), Nat.zero_add]
  rcases (by omega : j % 3 = 0 ∨ j % 3 = 1 ∨ j % 3 = 2) with e | e | e
  · have e2 : j / 3 * 3 = j := by omega
    rw [e2] at c0 f0
    rw [e]
    exact ⟨c0, f0⟩
  · have e2 : j / 3 * 3 + 1 = j := by omega
    rw [e2] at c1 f1
    rw [e]
    exact ⟨c1, f1⟩
  · have e2 : j / 3 * 3 + 2 = j := by omega
    rw [e2] at c2 f2
    rw [e]
    exact ⟨c2, f2⟩

theorem SC.set {W : World} {b n : Nat} {f : Nat → Sh} (h : SC W b n f) {k : Nat} (hk : k < n) (x : Sh) :
    SC (((W.setCell ⟨b, k * 3, none⟩ (.int .i64 x.1)).setCell ⟨b, k * 3 + 1, none⟩ (.int .i64 x.2.1)).setCell ⟨b, k * 3 + 2, none⟩ (.int .i64 x.2.2)) b n (fun i => if i = k then x else f i) := by
  refine ⟨by simpa using h.1, fun i hi => ?_⟩
  obtain ⟨⟨c0, c1, c2⟩, f0, f1, f2⟩ := h.2 i hi
  simp only [World.frozen?_setCell]
  refine ⟨?_, f0, f1, f2⟩
  by_cases e : i = k
  · subst e
    simp only [if_true]
    refine ⟨?_, ?_, ?_⟩
    · rw [World.cell?_setCell_other _ _ _ _ (by simp), World.cell?_setCell_other _ _ _ _ (by simp)]
      exact World.cell?_setCell_same _ _ _ c0
    · rw [World.cell?_setCell_other _ _ _ _ (by simp)]
      exact World.cell?_setCell_same _ _ _ (by rw [World.cell?_setCell_other _ _ _ _ (by simp)]; exact c1)
    · exact World.cell?_setCell_same _ _ _ (by rw [World.cell?_setCell_other _ _ _ _ (by simp), World.cell?_setCell_other _ _ _ _ (by simp)]; exact c2)
  · simp only [if_neg e]
    refine ⟨?_, ?_, ?_⟩
    · rw [World.cell?_setCell_other _ _ _ _ (by simp <;> omega), World.cell?_setCell_other _ _ _ _ (by simp <;> omega), World.cell?_setCell_other _ _ _ _ (by simp <;> omega)]; exact c0
    · rw [World.cell?_setCell_other _ _ _ _ (by simp <;> omega), World.cell?_setCell_other _ _ _ _ (by simp <;> omega), World.cell?_setCell_other _ _ _ _ (by simp <;> omega)]; exact c1
    · rw [World.cell?_setCell_other _ _ _ _ (by simp <;> omega), World.cell?_setCell_other _ _ _ _ (by simp <;> omega), World.cell?_setCell_other _ _ _ _ (by simp <;> omega)]; exact c2

theorem SC.made (w : World) (n : Nat) (t : TypeId) : SC (w.alloc (.cells (madeCells #[.int .i64 0, .int .i64 0, .int .i64 0] (n * 3)) t)) w.heap.size n (fun _ => (0, 0, 0)) := by
  have e1 := (MapKept.heap_alloc w (.cells (madeCells #[.int .i64 0, .int .i64 0, .int .i64 0] (n * 3)) t)).1
  refine ⟨by simp, fun i hi => ?_⟩
  have m0 : i * 3 % 3 = 0 := by omega
  have m1 : (i * 3 + 1) % 3 = 1 := by omega
  have m2 : (i * 3 + 2) % 3 = 2 := by omega
  have l0 : i * 3 < n * 3 := by omega
  have l1 : i * 3 + 1 < n * 3 := by omega
  have l2 : i * 3 + 2 < n * 3 := by omega
  simp only [World.cell?, World.frozen?]
  rw [e1]
  simp [madeCells, m0, m1, m2, l0, l1, l2]

theorem sc_step {W : World} {b n k : Nat} {P R : List Int} (h : SC W b n (fun i => if i = k then ((k : Int), P.getD k 0, R.getD k 0) else if i < k then ((i : Int), P.getD i 0, R.getD i 0) else (0, 0, 0))) : SC W b n (fun i => if i < k + 1 then ((i : Int), P.getD i 0, R.getD i 0) else (0, 0, 0)) := by
  have e : (fun (i : Nat) => if i = k then ((k : Int), P.getD k 0, R.getD k 0) else if i < k then ((i : Int), P.getD i 0, R.getD i 0) else (0, 0, 0)) = (fun (i : Nat) => if i < k + 1 then ((i : Int), P.getD i 0, R.getD i 0) else (0, 0, 0)) := by
    funext i
    by_cases e1 : i = k
    · subst e1; rw [if_pos rfl, if_pos (by omega)]
    · by_cases e2 : i < k
      · rw [if_neg e1, if_pos e2, if_pos (by omega)]
      · rw [if_neg e1, if_neg e2, if_neg (by omega)]
  rw [e] at h
  exact h
theorem sc_all {W : World} {b n : Nat} {P R : List Int} (h : SC W b n (fun i => if i < n then ((i : Int), P.getD i 0, R.getD i 0) else (0, 0, 0))) : HoldsK encSh 3 W b 0 (shL P R n).toArray := by
  have h1 := h.holds
  have e : (List.range n).map (fun (i : Nat) => if i < n then ((i : Int), P.getD i 0, R.getD i 0) else (0, 0, 0)) = shL P R n := by
    unfold shL
    apply List.map_congr_left
    intro i hi
    rw [if_pos (List.mem_range.1 hi)]
  rw [e] at h1
  exact h1

end Go.Proofs.YtnchgeiinkaefaaGreatDoor.Share
end

section
/-
  impl.shareTax: the rows at these places, all of one rate, get the tax of their sum.
-/
namespace Go.Proofs.YtnchgeiinkaefaaGreatDoor.Tax
set_option linter.unusedVariables false
open Go.RowKit
open Evs (E E0 ER EC hide unhide below_trans below_drewN' growB growT)
open BRow (R R0 RC ROwn)
open Ints (Cells)
open Coin (partV partB okB partI)
open Share (SC makeSh sc_step sc_all shL deal divD ptV rsV)

theorem cells_grown {W W' : World} {b : Nat} {l : List Int} {r : Option Nat} (h : Cells W b 0 l) (hg : W.grownBy W' r) (hb : some b ≠ r) : Cells W' b 0 l := h.kept hg hb
/-- the taxes behind the first k places -/
def taxP (rate old new : Nat → Int) (q : Int) (n k j : Nat) : Int := if ((plc rate q n).take k).contains j then new j else old j
theorem taxP_step {rate old new : Nat → Int} {q : Int} {n k : Nat} (hk : k < (plc rate q n).length) (j : Nat) : taxP rate old new q n (k + 1) j = if j = (plc rate q n).getD k 0 then new j else taxP rate old new q n k j := by
  unfold taxP
  have e : (plc rate q n).take (k + 1) = (plc rate q n).take k ++ [(plc rate q n).getD k 0] := by
    rw [List.take_add_one, List.getElem?_eq_getElem hk]; simp [List.getD, hk]
  rw [e]
  by_cases h : j = (plc rate q n).getD k 0
  · subst h; simp
  · have h2 : ((plc rate q n).take k ++ [(plc rate q n).getD k 0]).contains j = ((plc rate q n).take k).contains j := by
      rw [Bool.eq_iff_iff]; simp only [List.contains_iff_mem, List.mem_append, List.mem_singleton]
      constructor
      · rintro (h1 | h1)
        · exact h1
        · exact absurd h1 h
      · exact .inl
    rw [h2, if_neg h]
theorem taxP_all {net rate old : Nat → Int} {q S tax : Int} {n j : Nat} (hj : j < n) : taxP rate old (spreadF net rate old n q S tax) q n (plc rate q n).length j = spreadF net rate old n q S tax j := by
  unfold taxP
  rw [List.take_length]
  by_cases h : rate j = q
  · have : (plc rate q n).contains j = true := by simp [plc_mem, hj, h]
    rw [this]; rfl
  · have : (plc rate q n).contains j = false := by
      cases hc : (plc rate q n).contains j
      · rfl
      · simp [plc_mem, h] at hc
    rw [this]
    unfold spreadF grp
    rw [decide_eq_false h]; rfl

/-- the shares of a row in memory -/
abbrev HoldsK' (W : World) (b : Nat) (l : List Share.Sh) : Prop := Go.Sort.HoldsK Share.encSh 3 W b 0 l.toArray

set_option maxRecDepth 20000 in
set_option maxHeartbeats 2000000 in
theorem shareTax (b c g cp n : Nat) (l : List R) (rate : Nat → Int) (q : Int) (w : World) (hR : ROwn w b l) (hg : Cells w g 0 ((plc rate q n).map fun (j : Nat) => (j : Int))) (hbg : g ≠ b)
    (hn : l.length = n) (h6 : n ≤ 6) (hN : ∀ j, j < n → 0 ≤ netF l j ∧ netF l j ≤ 1000000000000000) (q0 : 0 ≤ q) (q1 : q ≤ 5000) (hO : ∀ j, j < n → rate j = q → oldF l j = 0) (hp : 0 < (plc rate q n).length) :
    Calls Tryz.prog 45 #[.slice (some ⟨b, 0, none⟩) n c, .slice (some ⟨g, 0, none⟩) (plc rate q n).length cp, .int .i64 q] w fun e w' => w.grownBy w' (some b) ∧
      ((partB (sumQ (netF l) rate n q) q 10000 = true ∧ e = .returned .nilIface ∧ ROwn w' b (rowsF l (spreadF (netF l) rate (oldF l) n q (sumQ (netF l) rate n q) (partV (sumQ (netF l) rate n q) q 10000)))) ∨ (partB (sumQ (netF l) rate n q) q 10000 = false ∧ e = .returned (.iface 84 (.int .i64 6)))) := by
  subst hn
  have hmk := makeSh (plc rate q l.length).length (by have := plc_len rate q l.length; omega)
  have HDL := hide (fun i hi => deal_plc (net := netF l) (rate := rate) (q := q) (n := l.length) (i := i) (fun j hj => (hN j hj).1) q0 hi (oldF l) hO)
  have HPT := hide (fun i (hi : i < (plc rate q l.length).length) => plc_lt hi)
  have HLEN := hide (plc_len rate q l.length)
  have HN := hide hN
  have HR := hide hR
  have HG := hide hg
  have hbw := hR.1.1
  have hgw := hg.1
  have hlen := plc_len rate q l.length
  clear hR hg hN hO
  obtain ⟨m, hm⟩ : ∃ m, (plc rate q l.length).length = m := ⟨_, rfl⟩
  rw [hm] at hmk hp hlen ⊢
  have HM := hide hm
  clear hm
  go_enter Tryz.func45, Tryz.ntmps45
  go_wp2
  have hS0 := SC.made w m 127
  have b0 : Below w.heap.size w (w.alloc (.cells (madeCells #[.int .i64 0, .int .i64 0, .int .i64 0] (m * 3)) 127)) := (Below.refl _ _).alloc (Nat.le_refl _) _
  have HS0 := hide hS0
  have HB0 := hide b0
  clear hS0 b0 hmk
  have HPJ : Hid (∀ k, k < m → ((plc rate q l.length).map (partJ (netF l) q)).getD k 0 = partJ (netF l) q ((plc rate q l.length).getD k 0) ∧ ((plc rate q l.length).map (restJ (netF l) q)).getD k 0 = restJ (netF l) q ((plc rate q l.length).getD k 0) ∧ ((plc rate q l.length).map (netF l)).getD k 0 = netF l ((plc rate q l.length).getD k 0) ∧ ((plc rate q l.length).map fun (j : Nat) => (j : Int)).getD k 0 = (((plc rate q l.length).getD k 0 : Nat) : Int)) := hide (fun k hk => by
    have hk' : k < (plc rate q l.length).length := by have := unhide HM; omega
    exact ⟨getD_map' _ _ 0 0 hk', getD_map' _ _ 0 0 hk', getD_map' _ _ 0 0 hk', getD_map' _ _ 0 0 hk'⟩)
  have HNB : Hid (∀ j, j < m → 0 ≤ ((plc rate q l.length).map (netF l)).getD j 0 ∧ ((plc rate q l.length).map (netF l)).getD j 0 ≤ 1000000000000000) := hide (fun j hj => by
    rw [(unhide HPJ j hj).2.2.1]
    exact unhide HN _ (unhide HPT j (by have := unhide HM; omega)).1)
  go_loopw [7, 23] (fun sv iv wr => ∃ k : Nat, k ≤ m ∧ iv = .int .i64 k ∧ sv = .int .i64 (((plc rate q l.length).map (netF l)).take k).sum ∧ Hid (SC wr w.heap.size m (fun i => if i < k then ((i : Int), ((plc rate q l.length).map (partJ (netF l) q)).getD i 0, ((plc rate q l.length).map (restJ (netF l) q)).getD i 0) else (0, 0, 0))) ∧ Hid (Below w.heap.size w wr)) (fun _ iv _ => m - (intOf iv).toNat)
  case atStart => exact ⟨0, Nat.zero_le _, rfl, by simp, HS0, HB0⟩
  case round =>
    obtain ⟨k, hk, rfl, rfl, D1, D3⟩ := hrel
    clear HS0 HB0
    have hsb := Share.sum_bd' ((plc rate q l.length).map (netF l)) 1000000000000000 k (fun j hj => unhide HNB j (by omega)) (by have := unhide HM; simp; omega)
    have hRr := (unhide HR).kept (unhide D3)
    have hGr := cells_below (unhide HG) (unhide D3)
    by_cases hlt : k < m
    · obtain ⟨e1, e2, e3, e4⟩ := unhide HPJ k hlt
      obtain ⟨hjn, hjq⟩ := unhide HPT k (by have := unhide HM; omega)
      have g1 := (hGr.2 k (by have := unhide HM; simp; omega)).1
      rw [Nat.zero_add, e4] at g1
      obtain ⟨n0, n1⟩ := unhide HN _ hjn
      obtain ⟨_, r1, _⟩ := hRr.1.2 _ hjn
      rw [Nat.zero_add] at r1
      have r1' : wr.cell? ⟨b, (plc rate q l.length).getD k 0 * 3 + 1, none⟩ = some (.int .i64 (netF l ((plc rate q l.length).getD k 0))) := r1
      clear r1
      have k1 : (0 : Int) ≤ (k : Int) := by omega
      have k2 : (k : Int) < (m : Int) := by omega
      have HSS := hide (Share.sum_take ((plc rate q l.length).map (netF l)) k (by have := unhide HM; simp; omega))
      rw [e3] at HSS
      obtain ⟨⟨s0, s1, s2⟩, f0, f1, f2⟩ := (unhide D1).2 k hlt
      have HST : Hid (∀ W : World, SC W w.heap.size m (fun i => if i < k then ((i : Int), ((plc rate q l.length).map (partJ (netF l) q)).getD i 0, ((plc rate q l.length).map (restJ (netF l) q)).getD i 0) else (0, 0, 0)) → SC (((W.setCell ⟨w.heap.size, k * 3, none⟩ (.int .i64 k)).setCell ⟨w.heap.size, k * 3 + 1, none⟩ (.int .i64 (partJ (netF l) q ((plc rate q l.length).getD k 0)))).setCell ⟨w.heap.size, k * 3 + 2, none⟩ (.int .i64 (restJ (netF l) q ((plc rate q l.length).getD k 0)))) w.heap.size m (fun i => if i < k + 1 then ((i : Int), ((plc rate q l.length).map (partJ (netF l) q)).getD i 0, ((plc rate q l.length).map (restJ (netF l) q)).getD i 0) else (0, 0, 0))) := hide (fun W hW => by
        have := hW.set hlt ((k : Int), partJ (netF l) q ((plc rate q l.length).getD k 0), restJ (netF l) q ((plc rate q l.length).getD k 0))
        rw [← e1, ← e2] at this ⊢
        exact sc_step this)
      have HPV : Hid (ptV (netF l ((plc rate q l.length).getD k 0)) 10000 q = partJ (netF l) q ((plc rate q l.length).getD k 0)) := hide rfl
      have HRV : Hid (rsV (netF l ((plc rate q l.length).getD k 0)) 10000 q = restJ (netF l) q ((plc rate q l.length).getD k 0)) := hide rfl
      have HD : Hid (∀ W, Calls Tryz.prog 68 #[.int .i64 (netF l ((plc rate q l.length).getD k 0)), .int .i64 q, .int .i64 10000, .func (.func 69) #[] #[]] W fun e w' => e = .returned (.tuple #[.int .i64 (partJ (netF l) q ((plc rate q l.length).getD k 0)), .int .i64 (restJ (netF l) q ((plc rate q l.length).getD k 0)), .bool true]) ∧ ∃ k, w' = W.drewN k) := hide (fun W => divD _ q 10000 W n0 n1 q0 (by omega) (by omega) (by omega) (by omega))
      have hpb := partJ_bd n0 n1 q0 q1
      have hjl : (((plc rate q l.length).getD k 0 : Nat) : Int) < (l.length : Int) := by omega
      have hj0 : (0 : Int) ≤ (((plc rate q l.length).getD k 0 : Nat) : Int) := by omega
      clear e1 e2 e3 e4 hGr hRr hpb HPV HRV
      generalize (plc rate q l.length).getD k 0 = j at *
      generalize partJ (netF l) q j = pj at *
      generalize restJ (netF l) q j = rj at *
      generalize netF l j = x at *
      generalize ((((plc rate q l.length).map (netF l))).take k).sum = sg at *
      simp only at s0 s1 s2
      go_wp2_with (fail)
      refine (unhide HD _).mono ?_
      rintro e w4 ⟨rfl, nk, rfl⟩
      go_wp2
      have hd := (unhide D1).kept (growB (below_drewN' (Below.refl _ _) nk) none) (by simp)
      exact ⟨⟨k + 1, by omega, by go_num, by rw [unhide HSS], hide (unhide HST _ hd), hide ((((below_drewN' (unhide D3) nk).setCell (p := ⟨w.heap.size, k * 3, none⟩) (Nat.le_refl _) _).setCell (p := ⟨w.heap.size, k * 3 + 1, none⟩) (Nat.le_refl _) _).setCell (p := ⟨w.heap.size, k * 3 + 2, none⟩) (Nat.le_refl _) _)⟩, by simp [intOf]; omega⟩
    · obtain rfl : k = m := by omega
      have HPLl : Hid (((plc rate q l.length).map (netF l)).length = k) := hide (by simpa using unhide HM)
      have HSQ : Hid ((((plc rate q l.length).map (netF l)).take k).sum = sumQ (netF l) rate l.length q) := hide (by
        rw [← unhide HPLl, List.take_length, sum_plc]; rfl)
      rw [unhide HSQ] at hsb ⊢
      have HD1 : Hid (HoldsK' wr w.heap.size (shL ((plc rate q l.length).map (partJ (netF l) q)) ((plc rate q l.length).map (restJ (netF l) q)) k)) := hide (sc_all (unhide D1))
      have hpv := partV_nonneg (a := sumQ (netF l) rate l.length q) hsb.1 q0
      have hpv2 := (Coin.part_bd (sumQ (netF l) rate l.length q) q 10000).2
      have hzr := (unhide D3).size
      have hDw := (unhide D1).1
      clear D1 hRr hGr HPLl HSQ hlt
      have HSAME : Hid (sumQ (netF l) rate l.length q = sumQ (netF l) rate l.length q) := hide rfl
      go_wp2_with (fail)
      refine (partI (sumQ (netF l) rate l.length q) q 10000 _).mono ?_
      rintro e w4 ⟨rfl, nk, hw4⟩
      have H4 := hide (hw4 ▸ below_drewN' (unhide D3) nk)
      have HH4 : Hid (HoldsK' w4 w.heap.size (shL ((plc rate q l.length).map (partJ (netF l) q)) ((plc rate q l.length).map (restJ (netF l) q)) k)) := hide (by
        rw [hw4]
        exact Share.kept_holds (unhide HD1) hDw (growB (below_drewN' (Below.refl _ _) nk) none) (by simp))
      have hD4 : w.heap.size < w4.heap.size := by rw [hw4]; simpa using hDw
      clear hw4 HD1 D3 hzr hDw
      have HMK := unhide HM
      have HPB : Hid (∀ j, j < k → 0 ≤ ((plc rate q l.length).map (partJ (netF l) q)).getD j 0 ∧ ((plc rate q l.length).map (partJ (netF l) q)).getD j 0 ≤ 1000000000000000) := hide (fun j hj => by
        rw [(unhide HPJ j hj).1]
        obtain ⟨n0, n1⟩ := unhide HN _ (unhide HPT j (by omega)).1
        have := (partJ_bd n0 n1 q0 q1).2.2.2.2.2.1
        omega)
      have hps := Share.sum_bd' ((plc rate q l.length).map (partJ (netF l) q)) 1000000000000000 k (unhide HPB) (by simp; omega)
      have hpl : ((plc rate q l.length).map (partJ (netF l) q)).length = k := by simpa using HMK
      rw [← hpl, List.take_length, hpl] at hps
      cases htb : partB (sumQ (netF l) rate l.length q) q 10000 with
      | false =>
        have HG4 := hide (growB (unhide H4) (some b))
        have HTB := hide htb
        clear htb
        go_wp2_with (fail)
        go_ret
        exact ⟨unhide HG4, .inr ⟨unhide HTB, rfl⟩⟩
      | true =>
        have HTB := hide htb
        clear htb
        have HDLk : Hid (∀ i, i < k → (fun (i : Nat) => ((plc rate q l.length).map (partJ (netF l) q)).getD i 0 + if (Share.cnt ((plc rate q l.length).map (restJ (netF l) q)) i k : Int) < partV (sumQ (netF l) rate l.length q) q 10000 - ((plc rate q l.length).map (partJ (netF l) q)).sum then 1 else 0) i = spreadF (netF l) rate (oldF l) l.length q (sumQ (netF l) rate l.length q) (partV (sumQ (netF l) rate l.length q) q 10000) ((plc rate q l.length).getD i 0)) := hide (fun i hi => by
          have := unhide HDL i (by omega)
          rwa [HMK] at this)
        obtain ⟨F, hF⟩ : ∃ F : Nat → Int, F = fun (i : Nat) => ((plc rate q l.length).map (partJ (netF l) q)).getD i 0 + if (Share.cnt ((plc rate q l.length).map (restJ (netF l) q)) i k : Int) < partV (sumQ (netF l) rate l.length q) q 10000 - ((plc rate q l.length).map (partJ (netF l) q)).sum then 1 else 0 := ⟨_, rfl⟩
        rw [← hF] at HDLk
        have HFF := hide hF
        clear hF HDL
        go_wp2_with (fail)
        refine (deal w.heap.size k k ((plc rate q l.length).map (partJ (netF l) q)) ((plc rate q l.length).map (restJ (netF l) q)) (partV (sumQ (netF l) rate l.length q) q 10000) (partV (sumQ (netF l) rate l.length q) q 10000 - ((plc rate q l.length).map (partJ (netF l) q)).sum) w4 (unhide HH4) hD4 (by omega) hp hpv hpv2 hpl rfl (by omega) (unhide HPB) F (fun i => by rw [unhide HFF])).mono ?_
        rintro e w6 ⟨g2, rfl, hC6, hg26, hgr6⟩
        have H6 : Hid (Below w.heap.size w w6) := hide ((unhide H4).grown hgr6 (unhide H4).size (fun j hj => by cases hj; exact Nat.le_refl _))
        have HC6 := hide hC6
        have hz4 := (unhide H4).size
        have hgb2 : g2 ≠ b := by omega
        have hg6w := hC6.1
        have HR6 := hide ((unhide HR).kept (unhide H6))
        have HG6 := hide (cells_below (unhide HG) (unhide H6))
        clear hC6 hgr6 HH4 H4
        go_wp2_with (fail)
        go_loopw [67] (fun iv wr => ∃ i : Nat, i ≤ k ∧ iv = .int .i64 i ∧ Hid (ROwn wr b (rowsF l (taxP rate (oldF l) (spreadF (netF l) rate (oldF l) l.length q (sumQ (netF l) rate l.length q) (partV (sumQ (netF l) rate l.length q) q 10000)) q l.length i))) ∧ Hid (w6.grownBy wr (some b))) (fun iv _ => k - (intOf iv).toNat)
        case atStart =>
          refine ⟨0, Nat.zero_le _, rfl, ?_, hide (World.grownBy.refl _ _)⟩
          have e : rowsF l (taxP rate (oldF l) (spreadF (netF l) rate (oldF l) l.length q (sumQ (netF l) rate l.length q) (partV (sumQ (netF l) rate l.length q) q 10000)) q l.length 0) = l := by
            rw [show taxP rate (oldF l) (spreadF (netF l) rate (oldF l) l.length q (sumQ (netF l) rate l.length q) (partV (sumQ (netF l) rate l.length q) q 10000)) q l.length 0 = oldF l from funext fun j => by simp [taxP]]
            exact rowsF_old l
          rw [e]; exact HR6
        case round =>
          obtain ⟨i, hi, rfl, D1, D2⟩ := hrel
          by_cases hil : i < k
          · have hc6 := ((cells_grown (unhide HC6) (unhide D2) (by simpa using hgb2)).2 i (by simpa using hil)).1
            have hg6 := ((cells_grown (unhide HG6) (unhide D2) (by simpa using hbg)).2 i (by simp; omega)).1
            rw [Nat.zero_add, (unhide HPJ i hil).2.2.2] at hg6
            rw [Nat.zero_add, show ((List.range k).map F).getD i 0 = F i by simp [List.getD, hil]] at hc6
            rw [unhide HDLk i hil] at hc6
            obtain ⟨hjn, _⟩ := unhide HPT i (by omega)
            have hjl : (plc rate q l.length).getD i 0 < (rowsF l (taxP rate (oldF l) (spreadF (netF l) rate (oldF l) l.length q (sumQ (netF l) rate l.length q) (partV (sumQ (netF l) rate l.length q) q 10000)) q l.length i)).length := by rw [rowsF_len]; exact hjn
            obtain ⟨_, _, r2⟩ := (unhide D1).1.2 _ hjl
            have f2 := (unhide D1).2 ((plc rate q l.length).getD i 0 * 3 + 2)
            rw [rowsF_get _ _ hjn, Nat.zero_add] at r2
            simp only at r2
            have E1 : Hid (∀ W, ROwn W b (rowsF l (taxP rate (oldF l) (spreadF (netF l) rate (oldF l) l.length q (sumQ (netF l) rate l.length q) (partV (sumQ (netF l) rate l.length q) q 10000)) q l.length i)) → ROwn (W.setCell ⟨b, (plc rate q l.length).getD i 0 * 3 + 2, none⟩ (.int .i64 (spreadF (netF l) rate (oldF l) l.length q (sumQ (netF l) rate l.length q) (partV (sumQ (netF l) rate l.length q) q 10000) ((plc rate q l.length).getD i 0)))) b (rowsF l (taxP rate (oldF l) (spreadF (netF l) rate (oldF l) l.length q (sumQ (netF l) rate l.length q) (partV (sumQ (netF l) rate l.length q) q 10000)) q l.length (i + 1)))) := hide (fun W hW => by
              have := rown_tax hW hjl (spreadF (netF l) rate (oldF l) l.length q (sumQ (netF l) rate l.length q) (partV (sumQ (netF l) rate l.length q) q 10000) ((plc rate q l.length).getD i 0))
              rw [rowsF_set l _ hjn] at this
              have e : (fun j => if j = (plc rate q l.length).getD i 0 then spreadF (netF l) rate (oldF l) l.length q (sumQ (netF l) rate l.length q) (partV (sumQ (netF l) rate l.length q) q 10000) ((plc rate q l.length).getD i 0) else taxP rate (oldF l) (spreadF (netF l) rate (oldF l) l.length q (sumQ (netF l) rate l.length q) (partV (sumQ (netF l) rate l.length q) q 10000)) q l.length i j) = taxP rate (oldF l) (spreadF (netF l) rate (oldF l) l.length q (sumQ (netF l) rate l.length q) (partV (sumQ (netF l) rate l.length q) q 10000)) q l.length (i + 1) := funext fun j => by
                rw [taxP_step (by omega)]
                by_cases h : j = (plc rate q l.length).getD i 0
                · rw [if_pos h, if_pos h, h]
                · rw [if_neg h, if_neg h]
              rwa [e] at this)
            have i1 : (0 : Int) ≤ (i : Int) := by omega
            have i2 : (i : Int) < (k : Int) := by omega
            have j1 : (0 : Int) ≤ (((plc rate q l.length).getD i 0 : Nat) : Int) := by omega
            have j2 : (((plc rate q l.length).getD i 0 : Nat) : Int) < (l.length : Int) := by omega
            generalize spreadF (netF l) rate (oldF l) l.length q (sumQ (netF l) rate l.length q) (partV (sumQ (netF l) rate l.length q) q 10000) ((plc rate q l.length).getD i 0) = sv at *
            generalize taxP rate (oldF l) (spreadF (netF l) rate (oldF l) l.length q (sumQ (netF l) rate l.length q) (partV (sumQ (netF l) rate l.length q) q 10000)) q l.length i ((plc rate q l.length).getD i 0) = ov at *
            generalize (plc rate q l.length).getD i 0 = j at *
            clear hjl HDLk HFF
            go_wp2
            exact ⟨⟨i + 1, by omega, by go_num, hide (unhide E1 _ (unhide D1)), hide (growT (unhide D2) (Evs.growS wr b _ _))⟩, by simp [intOf]; omega⟩
          · obtain rfl : i = k := by omega
            have HFIN : Hid (ROwn wr b (rowsF l (spreadF (netF l) rate (oldF l) l.length q (sumQ (netF l) rate l.length q) (partV (sumQ (netF l) rate l.length q) q 10000)))) := hide (by
              have := unhide D1
              rw [← HMK] at this
              rwa [rowsF_congr l (fun j hj => taxP_all (net := netF l) (S := sumQ (netF l) rate l.length q) hj)] at this)
            have HGG := hide (growT (growB (unhide H6) (some b)) (unhide D2))
            clear D1 D2
            go_wp2
            go_ret
            exact ⟨unhide HGG, .inl ⟨unhide HTB, rfl, unhide HFIN⟩⟩
end Go.Proofs.YtnchgeiinkaefaaGreatDoor.Tax
end

section
/-
  What impl.ascending hands out for a map of events: the events in the order of their Ids, for every loop body that keeps what it must.
-/
namespace Go.Proofs.YtnchgeiinkaefaaGreatDoor.Evs
set_option linter.unusedVariables false
open Go.RowKit Go.Maps MapM Go.Shelf

attribute [local go_sem] Oper.semAt_some

/-- what a round keeps: all that lies below B, and every row of cells from B + 2 on -/
structure KpB (B : Nat) (W W' : World) : Prop where
  os : W'.os = W.os
  tape : W'.tape = W.tape
  output : W'.output = W.output
  size : W.heap.size ≤ W'.heap.size
  same : ∀ (j : Nat) (o : Obj), W.heap[j]? = some o → (j < B ∨ B + 2 ≤ j ∧ o.isCells = true) → W'.heap[j]? = some o
theorem KpB.trans {B : Nat} {A C D : World} (h : KpB B A C) (k : KpB B C D) : KpB B A D :=
  ⟨k.os.trans h.os, k.tape.trans h.tape, k.output.trans h.output, Nat.le_trans h.size k.size, fun j o hj ho => k.same j o (h.same j o hj ho) ho⟩
theorem KpB.put {B : Nat} {n : Nat} (hn : B ≤ n) (W : World) (l : Nat) (o o' : Obj) (hl : n ≤ l) (h : W.heap[l]? = some o) (hc : o.isCells = false) (_ : o.isWalk = false) : KpB B W (W.putObj l o') := by
  have hg := grownBy_putObj' W l o'
  refine ⟨hg.os, hg.tape, hg.output, hg.size, fun j x hj hx => ?_⟩
  have hjs : j < W.heap.size := by
    refine Nat.lt_of_not_le fun hle => ?_
    rw [Array.getElem?_eq_none hle] at hj; simp at hj
  have hne : some j ≠ some l := by
    intro e
    simp only [Option.some.injEq] at e
    subst e
    rw [hj] at h
    simp only [Option.some.injEq] at h
    subst h
    rcases hx with hx | ⟨_, hx⟩
    · omega
    · rw [hc] at hx; simp at hx
  exact (hg.block j hjs hne).trans hj
theorem KpB.cell {B : Nat} {W W' : World} (h : KpB B W W') {j o : Nat} {v : Value} (hc : W.cell? ⟨j, o, none⟩ = some v) (hj : j < B ∨ B + 2 ≤ j) : W'.cell? ⟨j, o, none⟩ = some v := by
  obtain ⟨x, hx, hxc⟩ := cells_of_cell hc
  have := h.same j x hx (hj.imp id (fun e => ⟨e, hxc⟩))
  exact (World.cell?_of_block (this.trans hx.symm)).trans hc
theorem EM.keptK {B : Nat} {W W' : World} {b : Nat} {l : List E} (h : EM W b l) (hk : KpB B W W') (hb : b < B) : EM W' b l := by
  obtain ⟨es, clock, hb', F, hs, hD⟩ := h
  exact ⟨es, clock, hk.same b _ hb' (.inl hb), F, hs, hD⟩

/-- the keys in memory -/
def KC (W : World) (bk : Nat) (l : List E) : Prop := ∀ i, i < l.length → W.cell? ⟨bk, i, none⟩ = some (.string (l.getD i E0).1)

theorem enc_key (s : ByteArray) : encStr s.data.toList = .string s := by cases s; simp [encStr]
theorem keys_row {W : World} {base : Nat} {v : Value} {l : List E} (ha : Asc keyE l) {ss : List (List UInt8)} (hp : ss.Perm (strKeys (DE l))) (h : W.ownsRow base 9 1 v ss.length ((ss.mergeSort (fun x y => decide (x ≤ y))).map encStr)) :
    (l = [] ∧ v = .slice none 0 0) ∨ ∃ bk cap, v = .slice (some ⟨bk, 0, none⟩) l.length cap ∧ base ≤ bk ∧ bk < W.heap.size ∧ KC W bk l := by
  rw [keys_DM] at hp
  rw [sorted_keys keyE ha hp] at h
  have hlen : ss.length = l.length := by have := hp.length_eq; simpa using this
  obtain ⟨h1, h2⟩ := h
  rcases h2 with ⟨rfl, hn⟩ | ⟨g, cap, cur, rfl, hb, hg, hc1, hc2, hc3, hc4⟩
  · refine .inl ⟨List.length_eq_zero_iff.1 (by omega), rfl⟩
  · refine .inr ⟨g, cap, by rw [hlen], hb, ?_, fun i hi => ?_⟩
    · refine Nat.lt_of_not_le fun hle => ?_
      rw [Array.getElem?_eq_none hle] at hg; simp at hg
    · have e2 : cur[i]? = some (encStr (kb keyE (l.getD i E0))) := by
        have e1 : (cur.toList.take (ss.length * 1))[i]? = some (encStr (kb keyE (l.getD i E0))) := by
          rw [hc4]
          simp [List.getD, hi]
        rw [List.getElem?_take_of_lt (by omega)] at e1
        simpa using e1
      simp only [World.cell?, hg]
      rw [← enc_key]
      simpa using e2
theorem grown_alloc (w : World) (o : Obj) : w.grownBy (w.alloc o) none := ⟨rfl, rfl, rfl, by simp, fun j hj _ => Below.heap_alloc w o j hj⟩

theorem look1_run {w : World} {b : Nat} {l : List E} {t : TypeId} {s : ByteArray} (ht : Tryz.prog.underlying t = some (.map 9 59)) (h : EM w b l) (ha : Asc keyE l) (hs : s.size ≤ maxLen) :
    (Instr.lookup t (.map (some b)) (.string s) false).run Tryz.prog w = .ok (eV (lookE l s).1) w := by
  obtain ⟨v, ps, hrun, hv⟩ := World.ownsMap.lookup h law ht (zeroE w) (zd := .held (eV E0)) (zp := []) rfl (key := .string s) (WideMaps.keyOf_string_mk Tryz.underlying9 hs)
  rw [(look_DE ha s).1] at hv
  simp only [RV, Option.some.injEq, Prod.mk.injEq, DataW.held.injEq] at hv
  rw [hv.1] at hrun
  exact hrun
theorem take_step {l : List E} {k : Nat} (hk : k < l.length) : l.take k ++ [l.getD k E0] = l.take (k + 1) := by
  rw [List.take_add_one, List.getElem?_eq_getElem hk]; simp [List.getD, hk]

end Go.Proofs.YtnchgeiinkaefaaGreatDoor.Evs
end
