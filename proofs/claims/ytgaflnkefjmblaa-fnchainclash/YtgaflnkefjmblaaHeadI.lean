/-
  impl.ChainHead and impl.ChainCheck: the last of the heads, by a loop over what headsOf hands out.
-/
import Derived.Test.YtgaflnkefjmblaaHeadsI
namespace Go.Proofs.Ytgaflnkefjmblaa.Chain
set_option linter.unusedVariables false
open Go.RowKit Go.Shelf
open Txt (S0 TC TR)

attribute [local go_sem] Oper.semAt_some

theorem new1 (w : World) (v : Value) (t : TypeId) : (w.alloc (.cells #[v] t)).cell? ⟨w.heap.size, 0, none⟩ = some v ∧ (w.alloc (.cells #[v] t)).frozen? ⟨w.heap.size, 0, none⟩ = false := by
  have e1 := (MapKept.heap_alloc w (.cells #[v] t)).1
  constructor
  · simp only [World.cell?]
    rw [e1]; simp
  · simp only [World.frozen?]
    rw [e1]; simp
theorem last_heads (l : List ByteArray) : (headsF l).getLastD 27182 = headF l := by
  unfold headsF headF
  rw [List.range_succ, List.map_append]
  simp
theorem last_snoc (pre : List Int) (x : Int) : (pre ++ [x]).getLastD 27182 = x := by simp

set_option maxRecDepth 100000 in
set_option maxHeartbeats 2000000 in
theorem headI (v : Value) (l : List ByteArray) (w : World) (h : TR w v l) (hl : l.length ≤ maxLen) (hs : ∀ u ∈ l, u.size ≤ 100000000) :
    Calls Try.prog 15 #[v] w fun e w' => e = .returned (.int .i64 (headF l)) ∧ Below w.heap.size w w' := by
  have H := hide h
  have HS := hide hs
  obtain ⟨a, c, rfl⟩ := h.form
  clear h hs
  refine (callsIn_wide (n := 5)).1 ?_
  refine callsIn_of_wp_marks Try.func15 rfl trivial ?_ rfl
  simp only [Try.ntmps15, List.size_toArray, List.length_cons, List.length_nil, Nat.reduceAdd, Nat.reduceSub, Array.replicate_succ, Array.replicate_zero, List.push_toArray, List.append_toArray, List.nil_append, List.cons_append]
  gi_wp2_with (fail)
  refine ⟨trivial, (headsOfI 4 _ rfl _).mono ?_⟩
  rintro e w3 ⟨rfl, rfl⟩
  gi_wp2_with (fail)
  have n1 := new1 w (.int .i64 27182) 3
  have n2 := new1 (w.alloc (.cells #[.int .i64 27182] 3)) (.slice a l.length c) 23
  rw [World.size_alloc] at n2
  obtain ⟨W0, hW0⟩ : ∃ W0, (w.alloc (.cells #[.int .i64 27182] 3)).alloc (.cells #[.slice a l.length c] 23) = W0 := ⟨_, rfl⟩
  rw [hW0] at n2
  have hB0 : Below w.heap.size w W0 := by rw [← hW0]; exact ((Below.refl _ _).alloc (Nat.le_refl _) _).alloc (by simp) _
  have k2 : Below (w.heap.size + 1) (w.alloc (.cells #[.int .i64 27182] 3)) W0 := by rw [← hW0]; exact (Below.refl _ _).alloc (by simp) _
  have hsz : W0.heap.size = w.heap.size + 2 := by rw [← hW0]; simp
  have d1 : W0.cell? ⟨w.heap.size, 0, none⟩ = some (.int .i64 27182) := (k2.cell (p := ⟨w.heap.size, 0, none⟩) (by simp)).trans n1.1
  have e1 : W0.frozen? ⟨w.heap.size, 0, none⟩ = false := (k2.frozen (p := ⟨w.heap.size, 0, none⟩) (by simp)).trans n1.2
  have d2 := n2.1
  rw [hW0]
  clear n1 n2 hW0 k2
  have HTS : Hid (TS (fun j => j < w.heap.size ∨ j = w.heap.size + 1) W0 (.slice a l.length c) l) := by
    rcases unhide H with h | ⟨b, o, cap, he, h⟩
    · exact .inl h
    · exact .inr ⟨b, o, cap, he, .inl h.1, h.kept hB0⟩
  refine wpIn_rangeFunc_ownH rfl (by omega) (gf := 45) (lb := #[.pointer (some ⟨w.heap.size + 1, 0, none⟩)]) rfl trivial (enters_of Try.func45 (by kernel_rfl) rfl)
    (heads_stops 4 (by omega) (w.heap.size + 1) (fun j => j < w.heap.size ∨ j = w.heap.size + 1) _ l hl (unhide HS) W0 (.inr rfl) (fun j hj => by rcases hj with hj | hj <;> omega) d2 (unhide HTS)) KpS.trans (KpS.put (n := W0.heap.size) (fun j hj => by rcases hj with hj | hj <;> omega)) (Below.refl _ _) (fun _ => rfl)
    (fun pre W => (W.cell? ⟨w.heap.size, 0, none⟩ = some (.int .i64 (pre.getLastD 27182)) ∧ W.frozen? ⟨w.heap.size, 0, none⟩ = false ∧ w.heap.size + 2 ≤ W.heap.size) ∧ Below w.heap.size w W)
    (fun c pre W => False)
    (OwnFrom.and (Own.from (fun pre A B row hs hg hr => ⟨cell_kept hs.1 hg hr, (frozen_kept hs.1 hg hr).trans hs.2.1, Nat.le_trans hs.2.2 hg.size⟩) _) (ownFrom_below (Nat.le_refl _) (by omega)))
    (fun c => fun _ _ _ _ h _ _ => h)
    ⟨⟨d1, e1, by omega⟩, hB0⟩
    (fun x a' W => a' = { tmps := #[.slice a l.length c, undef, .int .i64 0, .pointer (some ⟨w.heap.size, 0, none⟩), .int .i64 x, .slice a l.length c, .func (.func 45) #[] #[.pointer (some ⟨w.heap.size + 1, 0, none⟩)], .int .i64 x, undef, undef], defers := [] })
    (fun x a' => Own.from (fun _ A B row hs hg hr => hs) _)
    ?assign ?body ?done ?stop
  case assign =>
    rintro lp pre x W K hI hK
    have HK := hide hK
    have HI := hide hI
    clear hK hI
    gi_wp2
    exact unhide HK _ _ ((KeepsOthers.refl _).from _) ⟨rfl, rfl, rfl, Nat.le_refl _, fun _ _ => rfl⟩ (unhide HI) rfl
  case body =>
    rintro lp pre x a' W hlp hloop ⟨⟨h1, h2, h3⟩, hB⟩ rfl hlen
    have HB := hide hB
    clear hB hloop
    gi_wp2
    refine ⟨(KeepsOthers.setCell _ _ _).from _, KpS.grown (r := some w.heap.size) (grownBy_setCell' _ _ _) (fun j hj => by rcases hj with hj | hj <;> omega) (fun j e hj => by cases e; rcases hj with hj | hj <;> omega), ⟨?_, ?_, by simpa using h3⟩, (unhide HB).setCell (p := ⟨w.heap.size, 0, none⟩) (Nat.le_refl _) _⟩
    · rw [last_snoc]; exact World.cell?_setCell_same _ _ _ h1
    · rw [World.frozen?_setCell]; exact h2
  case done =>
    rintro D ys W hD rfl ⟨⟨h1, h2, h3⟩, hB⟩ hK
    have HB := hide hB
    rw [last_heads] at h1
    clear hB
    gi_wp2_with (fail)
    refine ⟨by simp, .inl ⟨_, _, rfl, run_takeDeferred hK, ?_⟩⟩
    refine ⟨.int .i64 (headF l), ?_, rfl, (unhide HB).grown (grownBy_putObj' W D (.deferred none)) (unhide HB).size (fun k e => by cases e; omega)⟩
    simp [results, Try.results15, go_sem]
  case stop =>
    intro D c pre W _ _ h _
    exact h.elim

/-- ChainCheck -/
def checkF (l : List ByteArray) (h : Int) : Bool := decide (l.length ≤ 400 ∧ headF l = h)

theorem checkI (v : Value) (l : List ByteArray) (h : Int) (w : World) (hv : TR w v l) (hl : l.length ≤ maxLen) (hs : ∀ u ∈ l, u.size ≤ 100000000) :
    Calls Try.prog 17 #[v, .int .i64 h] w fun e w' => e = .returned (.bool (checkF l h)) ∧ Below w.heap.size w w' := by
  have HC := hide (headI v l w hv hl hs)
  obtain ⟨a, c, rfl⟩ := hv.form
  clear hv hs
  have hfits := fitsI a l.length c w hl
  by_cases hfit : l.length ≤ 400
  · have hd : decide ((l.length : Int) ≤ 400) = true := decide_eq_true (by omega)
    rw [hd] at hfits
    have hr : checkF l h = (headF l == h) := by
      unfold checkF; by_cases e : headF l = h <;> simp [e, hfit]
    rw [hr]
    go_enter Try.func17, Try.ntmps17
    go_wp2_with (fail)
    refine hfits.mono ?_
    rintro e w' ⟨rfl, hw⟩
    replace hw := hw.symm
    subst hw
    go_wp2_with (fail)
    refine (unhide HC).mono ?_
    rintro e w' ⟨rfl, hb⟩
    go_wp2
    go_ret
    exact ⟨rfl, hb⟩
  · have hd : decide ((l.length : Int) ≤ 400) = false := decide_eq_false (by omega)
    rw [hd] at hfits
    have hr : checkF l h = false := by
      unfold checkF; simp [hfit]
    rw [hr]
    go_enter Try.func17, Try.ntmps17
    go_wp2_with (fail)
    refine hfits.mono ?_
    rintro e w' ⟨rfl, hw⟩
    replace hw := hw.symm
    subst hw
    go_wp2
    go_ret
    exact ⟨rfl, Below.refl _ _⟩
end Go.Proofs.Ytgaflnkefjmblaa.Chain
