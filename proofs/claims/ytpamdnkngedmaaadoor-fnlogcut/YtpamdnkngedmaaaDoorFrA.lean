/-
  impl.frameAt: the reader's panic is recovered by a deferred closure.
-/
import Derived.Test.YtpamdnkngedmaaaDoorFrI
import Derived.Tactics
import Derived.Tactics2
import Derived.Defers
import Derived.Recover
import Derived.Laws.Pointers
import Derived.Deep.RegionHeld3
namespace Go.Proofs.YtpamdnkngedmaaaDoor.Fr
set_option linter.unusedVariables false
open Go.RowKit
open _root_.Go.Proofs.YtpamdnkngedmaaaDoor.Text (Env)

theorem cset {w : World} {p q : Nat} (u : Value) (h : q ≠ p) : (w.setCell ⟨p, 0, none⟩ u).cell? ⟨q, 0, none⟩ = w.cell? ⟨q, 0, none⟩ :=
  World.cell?_setCell_other _ _ _ _ (by simp)
theorem fset {w : World} {a b : Addr} (u : Value) : (w.setCell a u).frozen? b = w.frozen? b := World.frozen?_setCell _ _ _ _
theorem new3 (w : World) (x y z : Value) (t1 t2 t3 : TypeId) : let W := ((w.alloc (.cells #[x] t1)).alloc (.cells #[y] t2)).alloc (.cells #[z] t3)
    (W.cell? ⟨w.heap.size, 0, none⟩ = some x ∧ W.frozen? ⟨w.heap.size, 0, none⟩ = false) ∧ (W.cell? ⟨w.heap.size + 1, 0, none⟩ = some y ∧ W.frozen? ⟨w.heap.size + 1, 0, none⟩ = false) ∧ (W.cell? ⟨w.heap.size + 1 + 1, 0, none⟩ = some z ∧ W.frozen? ⟨w.heap.size + 1 + 1, 0, none⟩ = false) := by
  intro W
  have e1 : (w.alloc (.cells #[x] t1)).heap[w.heap.size]? = some (.cells #[x] t1) := (MapKept.heap_alloc w (.cells #[x] t1)).1
  have e2 : ((w.alloc (.cells #[x] t1)).alloc (.cells #[y] t2)).heap[w.heap.size + 1]? = some (.cells #[y] t2) := by
    have := (MapKept.heap_alloc (w.alloc (.cells #[x] t1)) (.cells #[y] t2)).1
    rwa [World.size_alloc] at this
  have e3 : W.heap[w.heap.size + 1 + 1]? = some (.cells #[z] t3) := by
    have := (MapKept.heap_alloc ((w.alloc (.cells #[x] t1)).alloc (.cells #[y] t2)) (.cells #[z] t3)).1
    rwa [World.size_alloc, World.size_alloc] at this
  have b2 : Below (w.heap.size + 1) (w.alloc (.cells #[x] t1)) W := ((Below.refl _ _).alloc (by simp) _).alloc (by simp) _
  have b3 : Below (w.heap.size + 1 + 1) ((w.alloc (.cells #[x] t1)).alloc (.cells #[y] t2)) W := (Below.refl _ _).alloc (by simp) _
  have f1 : W.heap[w.heap.size]? = some (.cells #[x] t1) := (b2.block _ (by omega)).trans e1
  have f2 : W.heap[w.heap.size + 1]? = some (.cells #[y] t2) := (b3.block _ (by omega)).trans e2
  refine ⟨⟨?_, ?_⟩, ⟨?_, ?_⟩, ⟨?_, ?_⟩⟩
  · simp only [World.cell?]; rw [f1]; simp
  · simp only [World.frozen?]; rw [f1]; simp
  · simp only [World.cell?]; rw [f2]; simp
  · simp only [World.frozen?]; rw [f2]; simp
  · simp only [World.cell?]; rw [e3]; simp
  · simp only [World.frozen?]; rw [e3]; simp

structure C3 (W : World) (p q r : Nat) (x y z : Value) : Prop where
  c0 : W.cell? ⟨p, 0, none⟩ = some x
  c1 : W.cell? ⟨q, 0, none⟩ = some y
  c2 : W.cell? ⟨r, 0, none⟩ = some z
theorem C3.set0 {W : World} {p q r : Nat} {x y z : Value} (h : C3 W p q r x y z) (hpq : p ≠ q) (hpr : p ≠ r) (X : Value) : C3 (W.setCell ⟨p, 0, none⟩ X) p q r X y z :=
  ⟨World.cell?_setCell_same _ _ _ h.c0, (cset _ (Ne.symm hpq)).trans h.c1, (cset _ (Ne.symm hpr)).trans h.c2⟩
theorem C3.set1 {W : World} {p q r : Nat} {x y z : Value} (h : C3 W p q r x y z) (hpq : p ≠ q) (hqr : q ≠ r) (Y : Value) : C3 (W.setCell ⟨q, 0, none⟩ Y) p q r x Y z :=
  ⟨(cset _ hpq).trans h.c0, World.cell?_setCell_same _ _ _ h.c1, (cset _ (Ne.symm hqr)).trans h.c2⟩
theorem C3.set2 {W : World} {p q r : Nat} {x y z : Value} (h : C3 W p q r x y z) (hpr : p ≠ r) (hqr : q ≠ r) (Z : Value) : C3 (W.setCell ⟨r, 0, none⟩ Z) p q r x y Z :=
  ⟨(cset _ hpr).trans h.c0, (cset _ hqr).trans h.c1, World.cell?_setCell_same _ _ _ h.c2⟩
theorem C3.drew {W : World} {p q r : Nat} {x y z : Value} (h : C3 W p q r x y z) : C3 W.drew p q r x y z := ⟨h.c0, h.c1, h.c2⟩
theorem below_drew1 {B : Nat} {W V : World} (h : Below B W V) : Below B W V.drew := ⟨h.os, h.tape, h.output, h.size, h.block⟩

/-- the closure, behind a panic: it is recovered, and nothing is told -/
theorem catchP (p q r : Nat) (hpq : p ≠ q) (hpr : p ≠ r) (hqr : q ≠ r) (x y z : Value) (tp : TypeId) (v : Value) (older : List PanicEntry) (w : World)
    (h0 : w.cell? ⟨p, 0, none⟩ = some x) (h1 : w.cell? ⟨q, 0, none⟩ = some y) (h2 : w.cell? ⟨r, 0, none⟩ = some z) (f0 : w.frozen? ⟨p, 0, none⟩ = false) (f1 : w.frozen? ⟨q, 0, none⟩ = false) (f2 : w.frozen? ⟨r, 0, none⟩ = false) :
    CallsD Tryd.prog 35 #[.pointer (some ⟨p, 0, none⟩), .pointer (some ⟨q, 0, none⟩), .pointer (some ⟨r, 0, none⟩)] (.panicking ({ v := .iface tp v, recovered := false } :: older)) w fun e u' w' =>
      e = .returned (.tuple #[]) ∧ u' = .panicking ({ v := .iface tp v, recovered := true } :: older) ∧ w' = ((w.setCell ⟨p, 0, none⟩ (.string ⟨#[]⟩)).setCell ⟨q, 0, none⟩ (.int .i64 0)).setCell ⟨r, 0, none⟩ (.bool false) := by
  have g1 : (w.setCell ⟨p, 0, none⟩ (.string ⟨#[]⟩)).cell? ⟨q, 0, none⟩ = some y := by rw [cset _ (Ne.symm hpq)]; exact h1
  have g2 : ((w.setCell ⟨p, 0, none⟩ (.string ⟨#[]⟩)).setCell ⟨q, 0, none⟩ (.int .i64 0)).cell? ⟨r, 0, none⟩ = some z := by rw [cset _ (Ne.symm hqr), cset _ (Ne.symm hpr)]; exact h2
  refine callsD_of_wpS Tryd.func35 rfl fun c₀ cs hu => ?_
  apply wpS_seq
  apply wpS_region
  simp [wpOpsS, go_sem, recoverD, hu, Tryd.ntmps35, Exit.thenS]
  refine wpS_cond (t := true) (by simp [Act.eval, Array.replicate]) ?_
  simp only [if_true]
  apply wpS_region
  simp [wpOpsS, go_sem, h0, f0, g1, f1, g2, f2, bodyPostS, results, Tryd.results35]

theorem catchN (p q r : Value) (w : World) :
    CallsD Tryd.prog 35 #[p, q, r] .returning w fun e u' w' => e = .returned (.tuple #[]) ∧ u' = .returning ∧ w' = w := by
  refine callsD_of_wpS Tryd.func35 rfl fun c₀ cs hu => ?_
  apply wpS_seq
  apply wpS_region
  simp [wpOpsS, go_sem, recoverD, hu, Tryd.ntmps35, Exit.thenS]
  refine wpS_cond (t := false) (by simp [Act.eval, Array.replicate]) ?_
  simp only [Bool.false_eq_true, if_false]
  refine wpS_of_wp (wp_skip ?_)
  cases c₀
  simp_all [bodyPostS, results, Tryd.results35]

/-- what frameAt tells -/
def AtOut (s : ByteArray) (e : Ending) : Prop :=
  (∃ t : ByteArray, IsFr s.data.toList t.data.toList ∧ e = .returned (.tuple #[.string t, .int .i64 ((frB t.data.toList).length : Nat), .bool true])) ∨ ((∀ t, ¬ IsFr s.data.toList t) ∧ e = .returned (.tuple #[.string ⟨#[]⟩, .int .i64 0, .bool false]))

set_option maxRecDepth 4000 in
set_option maxHeartbeats 4000000 in
theorem frameAt (s : ByteArray) (tp : TypeId) (v : Value) (w : World) (hs : s.size ≤ 1000000) (he : Env w) (hv : ErrAt w tp v) :
    Calls Tryd.prog 32 #[.string s] w fun e w' => Below w.heap.size w w' ∧ AtOut s e := by
  have hmf : ∀ (fn : Fn) (first cap : Array Value) (w : World), (Instr.makeFunc fn first cap).run Tryd.prog w = .ok (.func fn first cap) w := fun _ _ _ _ => rfl
  go_enter_defers Tryd.func32, Tryd.ntmps32
  go_wp2_with (fail)
  obtain ⟨W3, hW3⟩ : ∃ W3, ((w.alloc (.cells #[.string ⟨#[]⟩] 9)).alloc (.cells #[.int .i64 0] 3)).alloc (.cells #[.bool false] 4) = W3 := ⟨_, rfl⟩
  rw [hW3]
  have hB3 : Below w.heap.size w W3 := by rw [← hW3]; exact (((Below.refl _ _).alloc (Nat.le_refl _) _).alloc (by simp) _).alloc (by simp; omega) _
  have hz3 : W3.heap.size = w.heap.size + 1 + 1 + 1 := by rw [← hW3]; simp
  obtain ⟨c0, c1, c2⟩ := new3 w (.string ⟨#[]⟩) (.int .i64 0) (.bool false) 9 3 4
  rw [hW3] at c0 c1 c2
  clear hW3
  refine (readFr s tp v W3 hs (he.kept hB3) (hv.kept hB3)).mono ?_
  rintro e W4 ⟨hb4, ⟨t, hfr, rfl⟩ | ⟨hno, rfl⟩⟩
  · have d0 : W4.cell? ⟨w.heap.size, 0, none⟩ = some (.string ⟨#[]⟩) ∧ W4.frozen? ⟨w.heap.size, 0, none⟩ = false := ⟨(hb4.cell (by simp; omega)).trans c0.1, (hb4.frozen (by simp; omega)).trans c0.2⟩
    have d1 : W4.cell? ⟨w.heap.size + 1, 0, none⟩ = some (.int .i64 0) ∧ W4.frozen? ⟨w.heap.size + 1, 0, none⟩ = false := ⟨(hb4.cell (by simp; omega)).trans c1.1, (hb4.frozen (by simp; omega)).trans c1.2⟩
    have d2 : W4.cell? ⟨w.heap.size + 1 + 1, 0, none⟩ = some (.bool false) ∧ W4.frozen? ⟨w.heap.size + 1 + 1, 0, none⟩ = false := ⟨(hb4.cell (by simp; omega)).trans c2.1, (hb4.frozen (by simp; omega)).trans c2.2⟩
    have hB4 := hB3.trans (hb4.mono hB3.size)
    have hz4 := hb4.size
    clear c0 c1 c2 hb4 he hv hB3
    obtain ⟨d0, k0⟩ := d0
    obtain ⟨d1, k1⟩ := d1
    obtain ⟨d2, k2⟩ := d2
    go_wp2_with (fail)
    go_region
    go_wp2_with (fail)
    have n1 : w.heap.size ≠ w.heap.size + 1 := by omega
    have n2 : w.heap.size ≠ w.heap.size + 1 + 1 := by omega
    have n3 : w.heap.size + 1 ≠ w.heap.size + 1 + 1 := by omega
    obtain ⟨g0, g1, g2⟩ := ((((((C3.mk d0 d1 d2).set0 n1 n2 (.string t)).set1 n1 n3 (.int .i64 ((frB t.data.toList).length : Nat))).set0 n1 n2 (.string t)).set1 n1 n3 (.int .i64 ((frB t.data.toList).length : Nat))).set2 n2 n3 (.bool true)).drew
    have gB := below_drew1 (((((hB4.setCell (p := ⟨w.heap.size, 0, none⟩) (Nat.le_refl _) (.string t)).setCell (p := ⟨w.heap.size + 1, 0, none⟩) (Nat.le_add_right _ _) (.int .i64 ((frB t.data.toList).length : Nat))).setCell (p := ⟨w.heap.size, 0, none⟩) (Nat.le_refl _) (.string t)).setCell (p := ⟨w.heap.size + 1, 0, none⟩) (Nat.le_add_right _ _) (.int .i64 ((frB t.data.toList).length : Nat))).setCell (p := ⟨w.heap.size + 1 + 1, 0, none⟩) (Nat.le_add_right _ 2) (.bool true))
    refine leaves_cons (f := 35) (args := #[.pointer (some ⟨w.heap.size, 0, none⟩), .pointer (some ⟨w.heap.size + 1, 0, none⟩), .pointer (some ⟨w.heap.size + 1 + 1, 0, none⟩)]) (by simp) (by simp [go_sem]) ?_
    refine (catchN _ _ _ _).mono ?_
    rintro e u' w'' ⟨rfl, rfl, rfl⟩
    have hout : AtOut s (.returned (.tuple #[.string t, .int .i64 ((frB t.data.toList).length : Nat), .bool true])) := .inl ⟨t, hfr, rfl⟩
    simp [Leaves, settle, results, Tryd.results32, go_sem, g0, g1, g2]
    exact ⟨gB, hout⟩
  · go_wp2_with (fail)
    refine leaves_cons (f := 35) (args := #[.pointer (some ⟨w.heap.size, 0, none⟩), .pointer (some ⟨w.heap.size + 1, 0, none⟩), .pointer (some ⟨w.heap.size + 1 + 1, 0, none⟩)]) (by simp) (by simp [go_sem]) ?_
    refine (catchP w.heap.size (w.heap.size + 1) (w.heap.size + 1 + 1) (by omega) (by omega) (by omega) (.string ⟨#[]⟩) (.int .i64 0) (.bool false) tp v [] W4 ((hb4.cell (by simp; omega)).trans c0.1) ((hb4.cell (by simp; omega)).trans c1.1) ((hb4.cell (by simp; omega)).trans c2.1) ((hb4.frozen (by simp; omega)).trans c0.2) ((hb4.frozen (by simp; omega)).trans c1.2) ((hb4.frozen (by simp; omega)).trans c2.2)).mono ?_
    have d0 : W4.cell? ⟨w.heap.size, 0, none⟩ = some (.string ⟨#[]⟩) := (hb4.cell (by simp; omega)).trans c0.1
    have d1 : W4.cell? ⟨w.heap.size + 1, 0, none⟩ = some (.int .i64 0) := (hb4.cell (by simp; omega)).trans c1.1
    have d2 : W4.cell? ⟨w.heap.size + 1 + 1, 0, none⟩ = some (.bool false) := (hb4.cell (by simp; omega)).trans c2.1
    have n1 : w.heap.size ≠ w.heap.size + 1 := by omega
    have n2 : w.heap.size ≠ w.heap.size + 1 + 1 := by omega
    have n3 : w.heap.size + 1 ≠ w.heap.size + 1 + 1 := by omega
    obtain ⟨g0, g1, g2⟩ := (((C3.mk d0 d1 d2).set0 n1 n2 (.string ⟨#[]⟩)).set1 n1 n3 (.int .i64 0)).set2 n2 n3 (.bool false)
    have hB4 := hB3.trans (hb4.mono hB3.size)
    have gB := ((hB4.setCell (p := ⟨w.heap.size, 0, none⟩) (Nat.le_refl _) (.string ⟨#[]⟩)).setCell (p := ⟨w.heap.size + 1, 0, none⟩) (Nat.le_add_right _ _) (.int .i64 0)).setCell (p := ⟨w.heap.size + 1 + 1, 0, none⟩) (Nat.le_add_right _ 2) (.bool false)
    rintro e u' w'' ⟨rfl, rfl, rfl⟩
    have hout : AtOut s (.returned (.tuple #[.string ⟨#[]⟩, .int .i64 0, .bool false])) := .inr ⟨hno, rfl⟩
    simp [Leaves, settle, results, Tryd.results32, go_sem, g0, g1, g2]
    exact ⟨gB, hout⟩
end Go.Proofs.YtpamdnkngedmaaaDoor.Fr
