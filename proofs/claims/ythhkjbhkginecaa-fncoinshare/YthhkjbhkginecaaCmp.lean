/-
  The order of the shares (impl.greaterRest): the greater rest first, of equal ones the earlier place.
-/
import Derived.Test.YthhkjbhkginecaaProg
import Derived.WalkKit
import Derived.WalkLawsBesides
import Derived.Below
import Derived.Deep.QuietTactic
import Derived.BigQuiet
import Derived.Deep.RegionHeld
import Derived.Deep.DeepMust
import Derived.Shelf.SlSortCmp.WholeK
namespace Go.Proofs.Ythhkjbhkginecaa.Share
set_option linter.unusedVariables false
open Go.RowKit Go.Sort

def cmpI (x y : Int) : Int := if x < y then -1 else if y < x then 1 else 0

theorem compare (x y : Int) (w : World) : Calls Try.prog 66 #[.int .i64 x, .int .i64 y] w fun e w' => e = .returned (.int .i64 (cmpI x y)) ∧ w' = w := by
  by_cases h1 : x < y
  · have e : cmpI x y = -1 := by simp [cmpI, h1]
    rw [e]
    go_enter Try.func66, Try.ntmps66
    go_wp2
    go_ret
    exact ⟨rfl, rfl⟩
  · by_cases h2 : y < x
    · have e : cmpI x y = 1 := by simp [cmpI, h1, h2]
      rw [e]
      go_enter Try.func66, Try.ntmps66
      go_wp2
      go_ret
      exact ⟨rfl, rfl⟩
    · have e : cmpI x y = 0 := by simp [cmpI, h1, h2]
      rw [e]
      go_enter Try.func66, Try.ntmps66
      go_wp2
      go_ret
      exact ⟨rfl, rfl⟩

def orI (x y : Int) : Int := if x = 0 then y else x

theorem orInt (x y : Int) (b : Nat) (w : World) (c0 : w.cell? ⟨b, 0, none⟩ = some (.int .i64 x)) (c1 : w.cell? ⟨b, 1, none⟩ = some (.int .i64 y)) :
    Calls Try.prog 65 #[.slice (some ⟨b, 0, none⟩) 2 2] w fun e w' => e = .returned (.int .i64 (orI x y)) ∧ w' = w := by
  by_cases hx : x = 0
  · have hx' : (x != 0) = false := by simpa using hx
    have e : orI x y = y := by simp [orI, hx]
    rw [e]
    clear e hx
    by_cases hy : y = 0
    · have hy' : (y != 0) = false := by simpa using hy
      subst hy
      go_enter Try.func65, Try.ntmps65
      go_wp2
      refine wp_loop_rounds 3 ?_
      rw [rounds_succ]
      go_wp2
      rw [rounds_succ]
      go_wp2
      rw [rounds_succ]
      go_wp2
      go_ret
      exact ⟨rfl, rfl⟩
    · have hy' : (y != 0) = true := by simpa using hy
      go_enter Try.func65, Try.ntmps65
      go_wp2
      refine wp_loop_rounds 3 ?_
      rw [rounds_succ]
      go_wp2
      rw [rounds_succ]
      go_wp2
      go_ret
      exact ⟨rfl, rfl⟩
  · have hx' : (x != 0) = true := by simpa using hx
    have e : orI x y = x := by simp [orI, hx]
    rw [e]
    clear e hx
    go_enter Try.func65, Try.ntmps65
    go_wp2
    refine wp_loop_rounds 3 ?_
    rw [rounds_succ]
    go_wp2
    go_ret
    exact ⟨rfl, rfl⟩

/-- a share: its place, its part, its rest -/
abbrev Sh : Type := Int × Int × Int
def encSh (x : Sh) : List Value := [.int .i64 x.1, .int .i64 x.2.1, .int .i64 x.2.2]
def cmpSh (x y : Sh) : Int := orI (cmpI y.2.2 x.2.2) (cmpI x.1 y.1)

theorem third (w : World) (o1 o2 : Obj) (C : Array Value) (t : TypeId) (j : Nat) : (((w.alloc o1).alloc o2).alloc (.cells C t)).drew.cell? ⟨w.heap.size + 1 + 1, j, none⟩ = C[j]? := by
  have e1 := (MapKept.heap_alloc ((w.alloc o1).alloc o2) (.cells C t)).1
  have e2 : ((w.alloc o1).alloc o2).heap.size = w.heap.size + 1 + 1 := by simp
  rw [e2] at e1
  show (((w.alloc o1).alloc o2).alloc (.cells C t)).cell? _ = _
  simp only [World.cell?]
  rw [e1]; simp

/-- the world has new blocks and draws alone -/
def Gr (w w' : World) : Prop := ∃ q os', w' = grow (w.drewN q) os'

theorem gr3 (w : World) (o1 o2 o3 : Obj) : Gr w (((w.alloc o1).alloc o2).alloc o3).drew := ⟨1, #[o1, o2, o3], by
  show World.drew _ = _
  rw [alloc_eq_grow, alloc_eq_grow, alloc_eq_grow, grow_grow, grow_grow]; rfl⟩

theorem orAt (w : World) (o1 o2 : Obj) (x y : Int) : Calls Try.prog 65 #[.slice (some ⟨w.heap.size + 1 + 1, 0, none⟩) 2 2] (((w.alloc o1).alloc o2).alloc (.cells #[.int .i64 x, .int .i64 y] 3)).drew fun e w' => e = .returned (.int .i64 (orI x y)) ∧ Gr w w' :=
  (orInt x y _ _ (by rw [third]; rfl) (by rw [third]; rfl)).mono fun e w' ⟨he, hw⟩ => ⟨he, hw ▸ gr3 w o1 o2 _⟩

set_option maxHeartbeats 1000000 in
theorem greater (x1 x2 x3 y1 y2 y3 : Int) (w : World) : Calls Try.prog 51 #[.agg #[.int .i64 x1, .int .i64 x2, .int .i64 x3], .agg #[.int .i64 y1, .int .i64 y2, .int .i64 y3]] w fun e w' => e = .returned (.int .i64 (orI (cmpI y3 x3) (cmpI x1 y1))) ∧ Gr w w' := by
  have t0 : (((w.alloc (.cells #[.int .i64 x1, .int .i64 x2, .int .i64 x3] 61)).alloc (.cells #[.int .i64 y1, .int .i64 y2, .int .i64 y3] 61)).alloc (.cells #[.int .i64 (cmpI y3 x3), .int .i64 (cmpI x1 y1)] 3)).drew.cell? ⟨w.heap.size + 1 + 1, 0, none⟩ = some (.int .i64 (cmpI y3 x3)) := third w _ _ _ _ 0
  have t1 : (((w.alloc (.cells #[.int .i64 x1, .int .i64 x2, .int .i64 x3] 61)).alloc (.cells #[.int .i64 y1, .int .i64 y2, .int .i64 y3] 61)).alloc (.cells #[.int .i64 (cmpI y3 x3), .int .i64 (cmpI x1 y1)] 3)).drew.cell? ⟨w.heap.size + 1 + 1, 1, none⟩ = some (.int .i64 (cmpI x1 y1)) := third w _ _ _ _ 1
  have HOR : Hid (Calls Try.prog 65 _ _ _) := orInt (cmpI y3 x3) (cmpI x1 y1) _ _ t0 t1
  clear t0 t1
  go_enter Try.func51, Try.ntmps51
  go_wp2
  go_region_held (fun w' => w'.cell? ⟨w.heap.size, 0, none⟩ = some (.int .i64 x1) ∧ w'.cell? ⟨w.heap.size, 2, none⟩ = some (.int .i64 x3) ∧ w'.cell? ⟨w.heap.size + 1, 0, none⟩ = some (.int .i64 y1) ∧ w'.cell? ⟨w.heap.size + 1, 2, none⟩ = some (.int .i64 y3)) (go_keep) (first | (go_at_call 66; refine (compare _ _ _).mono ?_; rintro e w' ⟨rfl, rfl⟩) | (go_at_call 65; refine Calls.mono HOR.out ?_; rintro e w' ⟨rfl, rfl⟩))
  go_wp2
  go_ret
  exact ⟨rfl, gr3 w _ _ _⟩

theorem cmpLays (blk off size : Nat) (w : World) : CmpLays Try.prog 51 #[] encSh 3 cmpSh blk off size w :=
  fun _ _ _ _ x y => greater x.1 x.2.1 x.2.2 y.1 y.2.1 y.2.2 _

/-- is x ahead of y? -/
def ahead (x y : Sh) : Bool := decide (y.2.2 < x.2.2) || (decide (x.2.2 = y.2.2) && decide (x.1 < y.1))

theorem ltSh (x y : Sh) : ltOf cmpSh x y = ahead x y := by
  unfold ltOf cmpSh orI cmpI ahead
  by_cases h1 : y.2.2 < x.2.2
  · simp [h1]
  · by_cases h2 : x.2.2 < y.2.2
    · have : ¬ x.2.2 = y.2.2 := by omega
      simp [h1, h2, this]
    · have e : x.2.2 = y.2.2 := by omega
      by_cases h3 : x.1 < y.1
      · simp [e, h3]
      · by_cases h4 : y.1 < x.1
        · simp [e, h3, h4]
        · simp [e, h3, h4]

theorem swo : SWO (ltOf cmpSh) where
  irrefl x := by rw [ltSh]; simp [ahead]
  trans x y z h1 h2 := by rw [ltSh] at *; simp [ahead] at *; omega
  ntrans x y z h1 h2 := by rw [ltSh] at *; simp [ahead] at *; omega
end Go.Proofs.Ythhkjbhkginecaa.Share
