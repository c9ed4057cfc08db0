/-
  Texts of this proof laid together, in build order; each says of itself what it holds.
-/
import Derived.Test.YtnchgeiinkaefaaGreatDoorZaw
import Derived.Test.YtnchgeiinkaefaaGreatDoorZah
import Derived.Test.YtnchgeiinkaefaaGreatDoorZba
section
/-
  The laws' own marks on slices of rows: markBillRowS, heldBillRowS.
-/
namespace Go.Proofs.YtnchgeiinkaefaaGreatDoor.BRow
set_option linter.unusedVariables false
open Go.RowKit RegIn
open Evs (mt markT grow0 growT growB growS)

theorem rsetA {W : World} {b : Nat} {l : List R} (h : ROwn W b l) {k : Nat} (hk : k < l.length) (s : ByteArray) :
    ROwn (W.setCell ⟨b, k * 3, none⟩ (.string s)) b (l.set k (s, (l.getD k R0).2.1, (l.getD k R0).2.2)) := by
  refine ⟨⟨by simpa using h.1.1, fun i hi => ?_⟩, fun j => by simpa [World.frozen?_setCell] using h.2 j⟩
  have hi' : i < l.length := by simpa using hi
  obtain ⟨c0, c1, c2⟩ := h.1.2 i hi'
  rw [Nat.zero_add] at c0 c1 c2 ⊢
  have d1 : (⟨b, k * 3, none⟩ : Addr) ≠ ⟨b, i * 3 + 1, none⟩ := fun he => by simp only [Addr.mk.injEq, and_true, true_and] at he; omega
  have d2 : (⟨b, k * 3, none⟩ : Addr) ≠ ⟨b, i * 3 + 2, none⟩ := fun he => by simp only [Addr.mk.injEq, and_true, true_and] at he; omega
  by_cases e : i = k
  · subst e
    rw [List.getD_eq_getElem?_getD, List.getElem?_set_self hi']
    exact ⟨World.cell?_setCell_same _ _ _ c0, by rw [World.cell?_setCell_other _ _ _ _ d1]; exact c1, by rw [World.cell?_setCell_other _ _ _ _ d2]; exact c2⟩
  · have d0 : (⟨b, k * 3, none⟩ : Addr) ≠ ⟨b, i * 3, none⟩ := fun he => by simp only [Addr.mk.injEq, and_true, true_and] at he; omega
    rw [World.cell?_setCell_other _ _ _ _ d0, World.cell?_setCell_other _ _ _ _ d1, World.cell?_setCell_other _ _ _ _ d2, c0, c1, c2, List.getD_eq_getElem?_getD, List.getD_eq_getElem?_getD, List.getElem?_set_ne (by omega)]
    exact ⟨rfl, rfl, rfl⟩
theorem rsetB {W : World} {b : Nat} {l : List R} (h : ROwn W b l) {k : Nat} (hk : k < l.length) (q : Int) :
    ROwn (W.setCell ⟨b, k * 3 + 1, none⟩ (.int .i64 q)) b (l.set k ((l.getD k R0).1, q, (l.getD k R0).2.2)) := by
  refine ⟨⟨by simpa using h.1.1, fun i hi => ?_⟩, fun j => by simpa [World.frozen?_setCell] using h.2 j⟩
  have hi' : i < l.length := by simpa using hi
  obtain ⟨c0, c1, c2⟩ := h.1.2 i hi'
  rw [Nat.zero_add] at c0 c1 c2 ⊢
  have d0 : (⟨b, k * 3 + 1, none⟩ : Addr) ≠ ⟨b, i * 3, none⟩ := fun he => by simp only [Addr.mk.injEq, and_true, true_and] at he; omega
  have d2 : (⟨b, k * 3 + 1, none⟩ : Addr) ≠ ⟨b, i * 3 + 2, none⟩ := fun he => by simp only [Addr.mk.injEq, and_true, true_and] at he; omega
  by_cases e : i = k
  · subst e
    rw [List.getD_eq_getElem?_getD, List.getElem?_set_self hi']
    exact ⟨by rw [World.cell?_setCell_other _ _ _ _ d0]; exact c0, World.cell?_setCell_same _ _ _ c1, by rw [World.cell?_setCell_other _ _ _ _ d2]; exact c2⟩
  · have d1 : (⟨b, k * 3 + 1, none⟩ : Addr) ≠ ⟨b, i * 3 + 1, none⟩ := fun he => by simp only [Addr.mk.injEq, and_true, true_and] at he; omega
    rw [World.cell?_setCell_other _ _ _ _ d0, World.cell?_setCell_other _ _ _ _ d1, World.cell?_setCell_other _ _ _ _ d2, c0, c1, c2, List.getD_eq_getElem?_getD, List.getD_eq_getElem?_getD, List.getElem?_set_ne (by omega)]
    exact ⟨rfl, rfl, rfl⟩
theorem rsetQ {W : World} {b : Nat} {l : List R} (h : ROwn W b l) {k : Nat} (hk : k < l.length) (q : Int) :
    ROwn (W.setCell ⟨b, k * 3 + 2, none⟩ (.int .i64 q)) b (l.set k ((l.getD k R0).1, (l.getD k R0).2.1, q)) := by
  refine ⟨⟨by simpa using h.1.1, fun i hi => ?_⟩, fun j => by simpa [World.frozen?_setCell] using h.2 j⟩
  have hi' : i < l.length := by simpa using hi
  obtain ⟨c0, c1, c2⟩ := h.1.2 i hi'
  rw [Nat.zero_add] at c0 c1 c2 ⊢
  have d0 : (⟨b, k * 3 + 2, none⟩ : Addr) ≠ ⟨b, i * 3, none⟩ := fun he => by simp only [Addr.mk.injEq, and_true, true_and] at he; omega
  have d1 : (⟨b, k * 3 + 2, none⟩ : Addr) ≠ ⟨b, i * 3 + 1, none⟩ := fun he => by simp only [Addr.mk.injEq, and_true, true_and] at he; omega
  by_cases e : i = k
  · subst e
    rw [List.getD_eq_getElem?_getD, List.getElem?_set_self hi']
    exact ⟨by rw [World.cell?_setCell_other _ _ _ _ d0]; exact c0, by rw [World.cell?_setCell_other _ _ _ _ d1]; exact c1, World.cell?_setCell_same _ _ _ c2⟩
  · have d2 : (⟨b, k * 3 + 2, none⟩ : Addr) ≠ ⟨b, i * 3 + 2, none⟩ := fun he => by simp only [Addr.mk.injEq, and_true, true_and] at he; omega
    rw [World.cell?_setCell_other _ _ _ _ d0, World.cell?_setCell_other _ _ _ _ d1, World.cell?_setCell_other _ _ _ _ d2, c0, c1, c2, List.getD_eq_getElem?_getD, List.getD_eq_getElem?_getD, List.getElem?_set_ne (by omega)]
    exact ⟨rfl, rfl, rfl⟩

/-- the marks of a row -/
def marksR (k n : Nat) : List R := (List.range n).map fun i => (mt (k + 3 * i), ((k + 3 * i + 1 : Nat) : Int), ((k + 3 * i + 2 : Nat) : Int))
theorem marksR_len (k n : Nat) : (marksR k n).length = n := by simp [marksR]
theorem marksR_step (k : Nat) (l : List R) (j : Nat) (h : j < l.length) : (marksR k j ++ l.drop j).set j (mt (k + 3 * j), ((k + 3 * j + 1 : Nat) : Int), ((k + 3 * j + 2 : Nat) : Int)) = marksR k (j + 1) ++ l.drop (j + 1) := by
  rw [List.set_append_right _ _ (by rw [marksR_len]; exact Nat.le_refl _), marksR_len, Nat.sub_self, List.drop_eq_getElem_cons h, List.set_cons_zero]
  have e : marksR k (j + 1) = marksR k j ++ [(mt (k + 3 * j), ((k + 3 * j + 1 : Nat) : Int), ((k + 3 * j + 2 : Nat) : Int))] := by
    unfold marksR
    rw [List.range_succ, List.map_append]
    rfl
  rw [e, List.append_assoc]
  rfl
theorem getD_setR {L : List R} {j : Nat} (h : j < L.length) (y : R) : (L.set j y).getD j R0 = y := by simp [List.getD, h]

set_option maxHeartbeats 1000000 in
/-- markBillRowS -/
theorem markRows (B : Nat) (v : Value) (l : List R) (k : Nat) (w : World) (h : RN B w v l) (hl : l.length ≤ 1048576) (h0 : 1 ≤ k) (h1 : k ≤ 100000000) :
    Calls Tryz.prog 15 #[v, .int .i64 (k : Int)] w fun e w' => e = .returned (.int .i64 ((k + 3 * l.length : Nat) : Int)) ∧ RN B w' v (marksR k l.length) ∧ ∃ r, w.grownBy w' r ∧ ∀ b, r = some b → v.ownBlock = some b ∧ l ≠ [] ∧ B ≤ b := by
  rcases h with ⟨rfl, a, c, rfl⟩ | ⟨b, cap, rfl, hB, hO⟩
  · go_enter Tryz.func15, Tryz.ntmps15
    go_wp2
    refine wp_loop_rounds 1 ?_
    rw [rounds_succ]
    go_wp2
    go_ret
    exact ⟨by simp, .inl ⟨rfl, _, _, rfl⟩, none, grow0 _ _, fun b hb => by simp at hb⟩
  · by_cases hne : l = []
    · subst hne
      clear hO
      go_enter Tryz.func15, Tryz.ntmps15
      go_wp2
      refine wp_loop_rounds 1 ?_
      rw [rounds_succ]
      go_wp2
      go_ret
      exact ⟨by simp, .inl ⟨rfl, _, _, rfl⟩, none, grow0 _ _, fun b hb => by simp at hb⟩
    have HO := hide hO
    clear hO
    go_enter Tryz.func15, Tryz.ntmps15
    go_wp2
    go_loopw [1, 5] (fun t i wr => ∃ j : Nat, j ≤ l.length ∧ i = .int .i64 j ∧ t = .int .i64 ((k + 3 * j : Nat) : Int) ∧ Hid (ROwn wr b (marksR k j ++ l.drop j)) ∧ Hid (w.grownBy wr (some b))) (fun _ i _ => l.length - (intOf i).toNat)
    case atStart => exact ⟨0, Nat.zero_le _, rfl, by simp, by show ROwn _ _ _; simpa [marksR] using unhide HO, hide (grow0 _ _)⟩
    case round =>
      obtain ⟨j, hj, rfl, rfl, hd, hg⟩ := hrel
      by_cases hlt : j < l.length
      · have hj2 : j < (marksR k j ++ l.drop j).length := by rw [List.length_append, marksR_len, List.length_drop]; omega
        have HS := hide (marksR_step k l j hlt)
        generalize marksR k j ++ l.drop j = L at *
        have i1 : (0 : Int) ≤ (j : Int) := by omega
        have i2 : (j : Int) < (l.length : Int) := by omega
        go_wp2_with (fail)
        refine (markT (k + 3 * j) wr (by omega) (by omega)).mono ?_
        rintro e w1 ⟨rfl, hb1⟩
        have ho1 := (unhide hd).kept hb1
        obtain ⟨c0, c1, c2⟩ := ho1.1.2 j hj2
        have f0 := ho1.2 (j * 3)
        have f1 := ho1.2 (j * 3 + 1)
        have f2 := ho1.2 (j * 3 + 2)
        rw [Nat.zero_add] at c0 c1 c2
        have ho2 := rsetA ho1 hj2 (mt (k + 3 * j))
        generalize hy0 : L.getD j R0 = y0 at *
        have hj3 : j < (L.set j (mt (k + 3 * j), y0.2.1, y0.2.2)).length := by simpa using hj2
        have ho4 := rsetB ho2 hj3 ((k + 3 * j + 1 : Nat) : Int)
        rw [getD_setR hj2, List.set_set] at ho4
        have hj4 : j < (L.set j (mt (k + 3 * j), ((k + 3 * j + 1 : Nat) : Int), y0.2.2)).length := by simpa using hj2
        have ho5 := rsetQ ho4 hj4 ((k + 3 * j + 2 : Nat) : Int)
        rw [getD_setR hj2, List.set_set] at ho5
        have O5 := hide ho5
        have G5 := hide (growT (growT (growT (unhide hg) (growT (growB hb1 (some b)) (growS w1 b (j * 3) (.string (mt (k + 3 * j)))))) (growS _ b (j * 3 + 1) (.int .i64 ((k + 3 * j + 1 : Nat) : Int)))) (growS _ b (j * 3 + 2) (.int .i64 ((k + 3 * j + 2 : Nat) : Int))))
        have e1 : ((k + 3 * j : Nat) : Int) + 1 = ((k + 3 * j + 1 : Nat) : Int) := by omega
        have e3 : ((k + 3 * j + 1 : Nat) : Int) + 1 = ((k + 3 * j + 2 : Nat) : Int) := by omega
        clear ho1 ho2 ho4 ho5 hb1 hd hg hj3 hj4
        rw [unhide HS] at O5
        clear HS
        generalize mt (k + 3 * j) = m1 at *
        go_wp2
        exact ⟨⟨j + 1, by omega, by go_num, by congr 1, O5, G5⟩, by simp [intOf]; omega⟩
      · obtain rfl : j = l.length := by omega
        go_wp2
        go_ret
        refine ⟨rfl, .inr ⟨b, cap, by rw [marksR_len], ⟨hB.1, by rw [marksR_len]; exact hB.2⟩, ?_⟩, some b, unhide hg, fun b' hb' => by cases hb'; exact ⟨rfl, hne, hB.1⟩⟩
        have := unhide hd
        simpa using this

theorem marksR_at {k n j : Nat} (h : j < n) : (marksR k n).getD j R0 = (mt (k + 3 * j), ((k + 3 * j + 1 : Nat) : Int), ((k + 3 * j + 2 : Nat) : Int)) := by simp [marksR, List.getD, h]

set_option maxHeartbeats 1000000 in
/-- heldBillRowS, of a row that holds its marks -/
theorem heldRows (v : Value) (n k : Nat) (w : World) (h : RR w v (marksR k n)) (hl : n ≤ 1048576) (h0 : 1 ≤ k) (h1 : k ≤ 100000000) :
    Calls Tryz.prog 16 #[v, .int .i64 (k : Int)] w fun e w' => e = .returned (.int .i64 ((k + 3 * n : Nat) : Int)) ∧ Below w.heap.size w w' := by
  rcases h with ⟨hn, a, c, rfl⟩ | ⟨b, o, cap, rfl, hc⟩
  · have : n = 0 := by have := congrArg List.length hn; rw [marksR_len] at this; exact this
    subst this
    clear hn
    go_enter Tryz.func16, Tryz.ntmps16
    go_wp2
    refine wp_loop_rounds 1 ?_
    rw [rounds_succ]
    go_wp2
    go_ret
    exact ⟨by simp, Below.refl _ _⟩
  · rw [marksR_len]
    have HC := hide hc
    have hbs := hc.1
    clear hc
    go_enter Tryz.func16, Tryz.ntmps16
    go_wp2
    go_loopw [1, 5] (fun t i wr => ∃ j : Nat, j ≤ n ∧ i = .int .i64 j ∧ t = .int .i64 ((k + 3 * j : Nat) : Int) ∧ Hid (Below w.heap.size w wr)) (fun _ i _ => n - (intOf i).toNat)
    case atStart => exact ⟨0, Nat.zero_le _, rfl, by simp, hide (Below.refl _ _)⟩
    case round =>
      obtain ⟨j, hj, rfl, rfl, hb⟩ := hrel
      by_cases hlt : j < n
      · have HCW : Hid (∀ w2 : World, Below w.heap.size w w2 → w2.cell? ⟨b, o + j * 3, none⟩ = some (.string (mt (k + 3 * j))) ∧ w2.cell? ⟨b, o + j * 3 + 1, none⟩ = some (.int .i64 ((k + 3 * j + 1 : Nat) : Int)) ∧ w2.cell? ⟨b, o + j * 3 + 2, none⟩ = some (.int .i64 ((k + 3 * j + 2 : Nat) : Int))) := hide (fun w2 h2 => by
          have := ((unhide HC).kept h2).2 j (by rw [marksR_len]; exact hlt)
          rw [marksR_at hlt] at this
          exact this)
        have g0 : ∀ g : In (Below w.heap.size w), g.x.cell? ⟨b, o + j * 3, none⟩ = some (.string (mt (k + 3 * j))) := fun g => (unhide HCW g.x g.h).1
        have HC1 : Hid (∀ g : In (Below w.heap.size w), Calls Tryz.prog 32 #[.int .i64 ((k + 3 * j : Nat) : Int)] g.x fun x w' => x = .returned (.string (mt (k + 3 * j))) ∧ Below w.heap.size w w') := hide (fun g => (markT (k + 3 * j) g.x (by omega) (by omega)).mono (fun x w' ⟨hx, h2⟩ => ⟨hx, below_trans g.h h2⟩))
        have i1 : (0 : Int) ≤ (j : Int) := by omega
        have i2 : (j : Int) < (n : Int) := by omega
        have q1 : (!(mt (k + 3 * j)).toList == (mt (k + 3 * j)).toList) = false := by simp
        generalize mt (k + 3 * j) = m1 at *
        have e1 : ((k + 3 * j : Nat) : Int) + 1 = ((k + 3 * j + 1 : Nat) : Int) := by omega
        have e3 : ((k + 3 * j + 1 : Nat) : Int) + 1 = ((k + 3 * j + 2 : Nat) : Int) := by omega
        go_wp2
        refine wp_region_in (Below w.heap.size w) (by kernel_rfl) (by kernel_rfl) (below_drewN' (unhide hb) 1) ?_
        intro hne
        repeat (go_big_quiet_step (exact call_in _ (unhide HC1 _)))
        refine wpQuiet_nil ?_
        rintro _ ⟨g, rfl⟩
        have B2 := hide g.h
        have c1 := (unhide HCW g.x g.h).2.1
        have c2 := (unhide HCW g.x g.h).2.2
        clear hb
        have q2 : (((k + 3 * j + 1 : Nat) : Int) != ((k + 3 * j + 1 : Nat) : Int)) = false := by simp
        have q3 : (((k + 3 * j + 2 : Nat) : Int) != ((k + 3 * j + 2 : Nat) : Int)) = false := by simp
        go_wp2
        exact ⟨⟨j + 1, by omega, by go_num, by congr 1, B2⟩, by simp [intOf]; omega⟩
      · obtain rfl : j = n := by omega
        go_wp2
        go_ret
        exact ⟨rfl, unhide hb⟩
end Go.Proofs.YtnchgeiinkaefaaGreatDoor.BRow
end

section
/-
  The law on BillRate: impl.BillRate answers as spec.BillRate, writes into no argument, and its answer owns its memory.
-/
namespace Go.Proofs.YtnchgeiinkaefaaGreatDoor.Bill
set_option linter.unusedVariables false
open Go.RowKit Evs
open BRow (R R0 RC RR ROwn RN eqRows markRows heldRows marksR)
open Uses (U)
open Sums (sumsO)
open Rule (EnvR)
open ErrA (rty)

theorem en_keptG {B : Nat} {W W' : World} {v : Value} {l : List E} {r : Option Nat} (h : EN B W v l) (hg : W.grownBy W' r) (hr : ∀ b, r = some b → b < B) : EN B W' v l := by
  rcases h with h | ⟨b, cap, rfl, h1, hc⟩
  · exact .inl h
  · refine .inr ⟨b, cap, rfl, h1, ⟨Nat.lt_of_lt_of_le hc.1.1 hg.size, fun i hi => ?_⟩, fun j => ?_⟩
    · have hblk : W'.heap[b]? = W.heap[b]? := hg.block b hc.1.1 (fun e => by have := hr b e.symm; omega)
      have key : ∀ o : Nat, W'.cell? ⟨b, o, none⟩ = W.cell? ⟨b, o, none⟩ := fun o => World.cell?_of_block hblk
      obtain ⟨c0, c1, c2⟩ := hc.1.2 i hi
      exact ⟨(key _).trans c0, (key _).trans c1, (key _).trans c2⟩
    · have hblk : W'.heap[b]? = W.heap[b]? := hg.block b hc.1.1 (fun e => by have := hr b e.symm; omega)
      have key : W'.frozen? ⟨b, j, none⟩ = W.frozen? ⟨b, j, none⟩ := World.frozen?_of_block hblk
      exact key.trans (hc.2 j)
theorem rn_keptG {B : Nat} {W W' : World} {v : Value} {l : List R} {r : Option Nat} (h : RN B W v l) (hg : W.grownBy W' r) (hr : ∀ b, r = some b → b < B) : RN B W' v l := by
  rcases h with h | ⟨b, cap, rfl, h1, hc⟩
  · exact .inl h
  · refine .inr ⟨b, cap, rfl, h1, ⟨Nat.lt_of_lt_of_le hc.1.1 hg.size, fun i hi => ?_⟩, fun j => ?_⟩
    · have hblk : W'.heap[b]? = W.heap[b]? := hg.block b hc.1.1 (fun e => by have := hr b e.symm; omega)
      have key : ∀ o : Nat, W'.cell? ⟨b, o, none⟩ = W.cell? ⟨b, o, none⟩ := fun o => World.cell?_of_block hblk
      obtain ⟨c0, c1, c2⟩ := hc.1.2 i hi
      exact ⟨(key _).trans c0, (key _).trans c1, (key _).trans c2⟩
    · have hblk : W'.heap[b]? = W.heap[b]? := hg.block b hc.1.1 (fun e => by have := hr b e.symm; omega)
      have key : W'.frozen? ⟨b, j, none⟩ = W.frozen? ⟨b, j, none⟩ := World.frozen?_of_block hblk
      exact key.trans (hc.2 j)
theorem en_block {B : Nat} {W : World} {v : Value} {l : List E} (h : EN B W v l) (hl : l ≠ []) : ∃ b, v.ownBlock = some b ∧ B ≤ b ∧ b < W.heap.size := by
  rcases h with ⟨h, _⟩ | ⟨b, cap, rfl, h1, hc⟩
  · exact absurd h hl
  · exact ⟨b, rfl, h1.1, hc.1.1⟩

/-- what BillRate gives -/
noncomputable def rateO (us : List U) (t evs : List E) : List R := if (okL t && Evs.okB evs) = true ∧ rateB us t = true then rated us t else []
noncomputable def rateC (us : List U) (t evs : List E) : Int := if (okL t && Evs.okB evs) = true then (if rateB us t = true then 0 else 6) else 4
theorem rateO_len (us : List U) (t evs : List E) : (rateO us t evs).length ≤ 1048576 := by
  unfold rateO
  split
  · rename_i h
    have h1 : okL t = true := by
      cases ho : okL t
      · rw [ho] at h; simp at h
      · rfl
    have := (okL_parts h1).1
    unfold rated; rw [Tax.rowsF_len, rowsN_len]; omega
  · simp
theorem RateOut.rn {w w' : World} {t evs : List E} {us : List U} {v : Value} {c : Int} (h : RateOut w w' t evs us v c) : RN w.heap.size w' v (rateO us t evs) ∧ c = rateC us t evs := by
  unfold rateO rateC
  rcases h with ⟨h1, rfl, rfl⟩ | ⟨h1, h2, rfl, rfl⟩ | ⟨h1, h2, h3, rfl⟩
  · rw [h1]; exact ⟨.inl ⟨by simp, _, _, rfl⟩, by simp⟩
  · rw [h1, h2]; exact ⟨.inl ⟨by simp, _, _, rfl⟩, by simp⟩
  · rw [if_pos ⟨h1, h2⟩, if_pos h1, if_pos h2]; exact ⟨h3, rfl⟩

set_option maxRecDepth 20000 in
set_option maxHeartbeats 3200000 in
theorem lawRate (tv ev : Value) (t evs : List E) (w : World) (hT : ER w tv t) (hE : ER w ev evs) (htl : t.length ≤ maxLen) (hts : ∀ u ∈ t, u.1.size ≤ maxLen ∧ u.2.1.size ≤ maxLen) (hel : evs.length ≤ maxLen) (hes : ∀ u ∈ evs, u.1.size ≤ maxLen ∧ u.2.1.size ≤ maxLen) (hEn : EnvR w) (hg : w.cell? ⟨0, 0, none⟩ = some (rty 62)) (hgl : 0 < w.heap.size) :
    Calls Tryz.prog 3 #[tv, ev] w fun e w' => e = .returned (.bool true) ∧ Below w.heap.size w w' := by
  have HT := hide hT
  have HE := hide hE
  have HTS := hide hts
  have HES := hide hes
  have HEN := hide hEn
  have HG := hide hg
  have HGL := hide hgl
  clear hT hE hts hes hEn hg hgl
  go_enter Tryz.func3, Tryz.ntmps3
  go_wp2_with (fail)
  refine (szLins tv t 1048576 _ (unhide HT) htl (unhide HTS) (by omega) (by omega)).mono ?_
  rintro e w1 ⟨r, rfl, r1, r3, r2, hb1⟩
  by_cases hr : r < 0
  · have B1 := hide hb1
    clear hb1
    go_wp2
    go_ret
    exact ⟨rfl, unhide B1⟩
  have hl1 : t.length ≤ 1048576 := by have := r2 (by omega); omega
  have B1 := hide hb1
  clear hb1 r2 htl
  go_wp2_with (fail)
  refine (szEvs ev evs r _ ((unhide HE).kept (unhide B1)) hel (unhide HES) (by omega) (by omega)).mono ?_
  rintro e w1b ⟨q, rfl, q1, q3, q2, hb1⟩
  have B1b := hide (below_trans (unhide B1) hb1)
  clear hb1 B1
  by_cases hq : q < 0
  · go_wp2
    go_ret
    exact ⟨rfl, unhide B1b⟩
  have hl2 : evs.length ≤ 1048576 := by have := q2 (by omega); omega
  clear q2 hel r1 r3 q1 q3 hr
  go_wp2_with (fail)
  refine (toLins tv t _ ((unhide HT).kept (unhide B1b)) hl1).mono ?_
  rintro e w2a ⟨v1, rfl, u1, hb⟩
  have B2a := hide (below_trans (unhide B1b) hb)
  have U1 := hide u1.er
  clear hb u1 B1b
  go_wp2_with (fail)
  refine (toEvs ev evs _ ((unhide HE).kept (unhide B2a)) hl2).mono ?_
  rintro e w2 ⟨v2, rfl, u2, hb⟩
  have B2 := hide (below_trans (unhide B2a) hb)
  have U1' := hide ((unhide U1).kept hb)
  have U2 := hide u2.er
  clear hb u2 B2a U1
  go_wp2_with (fail)
  refine (rateS v1 v2 t evs _ (unhide U1') (unhide U2) hl1 (unhide HTS) hl2 (unhide HES)).mono ?_
  rintro e w3 ⟨sv, sc, rfl, hO, hb⟩
  obtain ⟨n3, rfl⟩ := hO.rn
  have B3 := hide (below_trans (unhide B2) hb)
  have N3 := hide n3.er
  have hOL := rateO_len (sumsO evs) t evs
  obtain ⟨O, hOO⟩ : ∃ O, rateO (sumsO evs) t evs = O := ⟨_, rfl⟩
  obtain ⟨C, hCC⟩ : ∃ C, rateC (sumsO evs) t evs = C := ⟨_, rfl⟩
  rw [hOO] at N3 hOL
  rw [hCC]
  have HOO := hide hOO
  have HCC := hide hCC
  clear hb hO n3 B2 U1' U2 hOO hCC
  go_wp2_with (fail)
  refine (toLins tv t _ ((unhide HT).kept (unhide B3)) hl1).mono ?_
  rintro e w4 ⟨v4, rfl, u4, hb⟩
  have B4 := hide (below_trans (unhide B3) hb)
  have C4 := hide hb
  have U4 := hide u4
  have z3 := (unhide B3).size
  have z4 := hb.size
  clear B3 hb u4
  go_wp2_with (fail)
  refine (toEvs ev evs _ ((unhide HE).kept (unhide B4)) hl2).mono ?_
  rintro e w5 ⟨v5, rfl, u5, hb⟩
  have B5 := hide (below_trans (unhide B4) hb)
  have C5 := hide (below_trans (unhide C4) hb)
  have U4b := hide ((unhide U4).kept hb)
  have U5 := hide u5
  have z5 := hb.size
  clear B4 hb u5 C4
  have y4 : Hid (∀ b, v4.ownBlock = some b → t ≠ [] → w3.heap.size ≤ b ∧ b < w4.heap.size) := hide (fun b hb hne => by
    obtain ⟨b', h1, h2, h3⟩ := en_block (unhide U4) hne
    rw [h1] at hb
    simp only [Option.some.injEq] at hb
    subst hb
    exact ⟨h2, h3⟩)
  have y5 : Hid (∀ b, v5.ownBlock = some b → evs ≠ [] → w4.heap.size ≤ b ∧ b < w5.heap.size) := hide (fun b hb hne => by
    obtain ⟨b', h1, h2, h3⟩ := en_block (unhide U5) hne
    rw [h1] at hb
    simp only [Option.some.injEq] at hb
    subst hb
    exact ⟨h2, h3⟩)
  clear U4
  go_wp2_with (fail)
  refine (billRateI v4 v5 t evs _ (unhide U4b).er (unhide U5).er hl1 (unhide HTS) hl2 (unhide HES) ((unhide HEN).kept (unhide B5)) (((unhide B5).cell (p := ⟨0, 0, none⟩) (unhide HGL)).trans (unhide HG)) (Nat.lt_of_lt_of_le (unhide HGL) (unhide B5).size)).mono ?_
  rintro e w6 ⟨gv, gc, rfl, hO, hb⟩
  obtain ⟨n6, rfl⟩ := hO.rn
  rw [unhide HOO] at n6
  rw [unhide HCC]
  have B6 := hide (below_trans (unhide B5) hb)
  have C6 := hide (below_trans (unhide C5) hb)
  have N6 := hide ((unhide N3).kept (unhide C6))
  have U46 := hide ((unhide U4b).kept hb)
  have U56 := hide ((unhide U5).kept hb)
  have G6 := hide n6
  clear hb hO n6 B5 C5 U4b U5
  have hcc : (C != C) = false := by simp
  go_wp2_with (fail)
  refine (eqRows gv sv O _ (unhide G6).er (unhide N6) hOL).mono ?_
  rintro e w7 ⟨rfl, hb⟩
  have B7 := hide (below_trans (unhide B6) hb)
  have C7 := hide (below_trans (unhide C6) hb)
  have U47 := hide ((unhide U46).kept hb)
  have U57 := hide ((unhide U56).kept hb)
  have G7 := hide ((unhide G6).kept hb)
  clear hb B6 C6 U46 U56 G6 N6
  go_wp2_with (fail)
  refine (toLins tv t _ ((unhide HT).kept (unhide B7)) hl1).mono ?_
  rintro e w8 ⟨v8, rfl, u8, hb⟩
  have B8 := hide (below_trans (unhide B7) hb)
  have C8 := hide (below_trans (unhide C7) hb)
  have U48 := hide ((unhide U47).kept hb)
  have U58 := hide ((unhide U57).kept hb)
  have G8 := hide ((unhide G7).kept hb)
  have V8 := hide u8.er
  clear hb B7 C7 U47 U57 G7 u8
  go_wp2_with (fail)
  refine (eqLins v4 v8 t _ (unhide U48).er (unhide V8) hl1).mono ?_
  rintro e w9 ⟨rfl, hb⟩
  have B9 := hide (below_trans (unhide B8) hb)
  have C9 := hide (below_trans (unhide C8) hb)
  have U49 := hide ((unhide U48).kept hb)
  have U59 := hide ((unhide U58).kept hb)
  have G9 := hide ((unhide G8).kept hb)
  clear hb B8 C8 U48 U58 G8 V8
  go_wp2_with (fail)
  refine (toEvs ev evs _ ((unhide HE).kept (unhide B9)) hl2).mono ?_
  rintro e w10 ⟨v10, rfl, u10, hb⟩
  have B10 := hide (below_trans (unhide B9) hb)
  have C10 := hide (below_trans (unhide C9) hb)
  have U410 := hide ((unhide U49).kept hb)
  have U510 := hide ((unhide U59).kept hb)
  have G10 := hide ((unhide G9).kept hb)
  have V10 := hide u10.er
  clear hb B9 C9 U49 U59 G9 u10
  go_wp2_with (fail)
  refine (eqEvs v5 v10 evs _ (unhide U510).er (unhide V10) hl2).mono ?_
  rintro e w11 ⟨rfl, hb⟩
  have B11 := hide (below_trans (unhide B10) hb)
  have C11 := hide (below_trans (unhide C10) hb)
  have U411 := hide ((unhide U410).kept hb)
  have U511 := hide ((unhide U510).kept hb)
  have G11 := hide ((unhide G10).kept hb)
  clear hb B10 C10 U410 U510 G10 V10
  go_wp2_with (fail)
  refine (markLins _ v4 t 1 _ (unhide U411) hl1 (by omega) (by omega)).mono ?_
  rintro e w12 ⟨rfl, _, r12, hg12, hr12⟩
  have hrr : ∀ b, r12 = some b → w3.heap.size ≤ b ∧ b < w4.heap.size := fun b hb => unhide y4 b (hr12 b hb).1 (hr12 b hb).2.1
  have C12 := hide ((unhide C11).grown hg12 (unhide C11).size (fun b hb => (hrr b hb).1))
  have B12 := hide ((unhide B11).grown hg12 (unhide B11).size (fun b hb => Nat.le_trans z3 (hrr b hb).1))
  have G12 := hide (rn_keptG (unhide G11) hg12 (fun b hb => Nat.lt_of_lt_of_le (hrr b hb).2 z5))
  have U512 := hide (en_keptG (unhide U511) hg12 (fun b hb => (hrr b hb).2))
  clear hg12 hr12 hrr r12 B11 C11 G11 U411 U511 y4
  go_wp2_with (fail)
  refine (markEvs _ v5 evs (1 + 3 * t.length) _ (unhide U512) hl2 (by omega) (by omega)).mono ?_
  rintro e w13 ⟨rfl, _, r13, hg13, hr13⟩
  have hrr : ∀ b, r13 = some b → w4.heap.size ≤ b ∧ b < w5.heap.size := fun b hb => unhide y5 b (hr13 b hb).1 (hr13 b hb).2.1
  have C13 := hide ((unhide C12).grown hg13 (unhide C12).size (fun b hb => Nat.le_trans z4 (hrr b hb).1))
  have B13 := hide ((unhide B12).grown hg13 (unhide B12).size (fun b hb => Nat.le_trans z3 (Nat.le_trans z4 (hrr b hb).1)))
  have G13 := hide (rn_keptG (unhide G12) hg13 (fun b hb => (hrr b hb).2))
  have N13 := hide ((unhide N3).kept (unhide C13))
  clear hg13 hr13 hrr r13 B12 C12 G12 U512 y5
  have k9 : ¬ ((1 + 3 * t.length + 3 * evs.length : Nat) : Int) < 0 := by omega
  go_wp2_with (fail)
  refine (eqRows gv sv O _ (unhide G13).er (unhide N13) hOL).mono ?_
  rintro e w14 ⟨rfl, hb⟩
  have B14 := hide (below_trans (unhide B13) hb)
  have C14 := hide (below_trans (unhide C13) hb)
  have G14 := hide ((unhide G13).kept hb)
  clear hb B13 C13 G13 N13
  go_wp2_with (fail)
  refine (markRows _ gv O 1 _ (unhide G14) hOL (by omega) (by omega)).mono ?_
  rintro e w15 ⟨rfl, g15, r15, hg15, hr15⟩
  have C15 := hide ((unhide C14).grown hg15 (unhide C14).size (fun b hb => Nat.le_trans z4 (Nat.le_trans z5 (hr15 b hb).2.2)))
  have B15 := hide ((unhide B14).grown hg15 (unhide B14).size (fun b hb => Nat.le_trans z3 (Nat.le_trans z4 (Nat.le_trans z5 (hr15 b hb).2.2))))
  have G15 := hide g15
  clear hg15 hr15 r15 B14 C14 G14 g15
  go_wp2_with (fail)
  refine (heldRows gv O.length 1 _ (unhide G15).er hOL (by omega) (by omega)).mono ?_
  rintro e w16 ⟨rfl, hb⟩
  have B16 := hide (below_trans (unhide B15) hb)
  have C16 := hide (below_trans (unhide C15) hb)
  have G16 := hide ((unhide G15).kept hb)
  clear hb B15 C15 G15
  have x12 : ((1 + 3 * (O.length : Int)) != (1 + 3 * (O.length : Int))) = false := by simp
  go_wp2_with (fail)
  refine (toLins tv t _ ((unhide HT).kept (unhide B16)) hl1).mono ?_
  rintro e w17 ⟨v17, rfl, u17, hb⟩
  have B17 := hide (below_trans (unhide B16) hb)
  have C17 := hide (below_trans (unhide C16) hb)
  have G17 := hide ((unhide G16).kept hb)
  have V17 := hide u17.er
  clear hb B16 C16 G16 u17
  go_wp2_with (fail)
  refine (toEvs ev evs _ ((unhide HE).kept (unhide B17)) hl2).mono ?_
  rintro e w18 ⟨v18, rfl, u18, hb⟩
  have B18 := hide (below_trans (unhide B17) hb)
  have C18 := hide (below_trans (unhide C17) hb)
  have G18 := hide ((unhide G17).kept hb)
  have V17b := hide ((unhide V17).kept hb)
  have V18 := hide u18.er
  clear hb B17 C17 G17 u18 V17
  go_wp2_with (fail)
  refine (billRateI v17 v18 t evs _ (unhide V17b) (unhide V18) hl1 (unhide HTS) hl2 (unhide HES) ((unhide HEN).kept (unhide B18)) (((unhide B18).cell (p := ⟨0, 0, none⟩) (unhide HGL)).trans (unhide HG)) (Nat.lt_of_lt_of_le (unhide HGL) (unhide B18).size)).mono ?_
  rintro e w19 ⟨hv, hc, rfl, hO, hb⟩
  obtain ⟨n19, rfl⟩ := hO.rn
  rw [unhide HOO] at n19
  rw [unhide HCC]
  have B19 := hide (below_trans (unhide B18) hb)
  have C19 := hide (below_trans (unhide C18) hb)
  have G19 := hide ((unhide G18).kept hb)
  have N19 := hide ((unhide N3).kept (unhide C19))
  have V19 := hide n19.er
  clear hb hO n19 B18 C18 G18 V17b V18
  go_wp2_with (fail)
  refine (eqRows hv sv O _ (unhide V19) (unhide N19) hOL).mono ?_
  rintro e w20 ⟨rfl, hb⟩
  have B20 := hide (below_trans (unhide B19) hb)
  have G20 := hide ((unhide G19).kept hb)
  clear hb B19 C19 G19 N19 V19
  go_wp2_with (fail)
  refine (heldRows gv O.length 1 _ (unhide G20).er hOL (by omega) (by omega)).mono ?_
  rintro e w21 ⟨rfl, hb⟩
  have B21 := hide (below_trans (unhide B20) hb)
  clear hb B20 G20
  go_wp2
  go_ret
  exact ⟨rfl, unhide B21⟩
end Go.Proofs.YtnchgeiinkaefaaGreatDoor.Bill
end
