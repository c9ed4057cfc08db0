/-
  Texts of this proof laid together, in build order; each says of itself what it holds.
-/
import Derived.Test.YtnchgeiinkaefaaGreatDoorZaf
import Derived.Test.YtnchgeiinkaefaaGreatDoorZae
import Derived.Test.YtnchgeiinkaefaaGreatDoorZad
import Derived.Test.YtnchgeiinkaefaaGreatDoorZac
section
/-
  The laws' own marks on slices of rows: markBillRowS, heldBillRowS.
-/
namespace Go.Proofs.YtnchgeiinkaefaaGreatDoor.BRow
set_option linter.unusedVariables false
open Go.RowKit RegIn
open Evs (mt markT grow0 growT growB growS)

theorem rsetA {W : World} {b : Nat} {l : List R} (h : ROwn W b l) {k : Nat} (hk : k < l.length) (s : ByteArray) :
    ROwn (W.setCell ⟨b, k * 3, none⟩ (.string s)) b (l.set k (s, (l.getD k R0).2.1, (l.getD k R0).2.2)) := by
  refine ⟨⟨by simpa using h.1.1, fun i hi => ?_⟩, fun j => by simpa [World.frozen?_setCell] using h.2 j⟩
  have hi' : i < l.length := by simpa using hi
  obtain ⟨c0, c1, c2⟩ := h.1.2 i hi'
  rw [Nat.zero_add] at c0 c1 c2 ⊢
  have d1 : (⟨b, k * 3, none⟩ : Addr) ≠ ⟨b, i * 3 + 1, none⟩ := fun he => by simp only [Addr.mk.injEq, and_true, true_and] at he; omega
  have d2 : (⟨b, k * 3, none⟩ : Addr) ≠ ⟨b, i * 3 + 2, none⟩ := fun he => by simp only [Addr.mk.injEq, and_true, true_and] at he; omega
  by_cases e : i = k
  · subst e
    rw [List.getD_eq_getElem?_getD, List.getElem?_set_self hi']
    exact ⟨World.cell?_setCell_same _ _ _ c0, by rw [World.cell?_setCell_other _ _ _ _ d1]; exact c1, by rw [World.cell?_setCell_other _ _ _ _ d2]; exact c2⟩
  · have d0 : (⟨b, k * 3, none⟩ : Addr) ≠ ⟨b, i * 3, none⟩ := fun he => by simp only [Addr.mk.injEq, and_true, true_and] at he; omega
    rw [World.cell?_setCell_other _ _ _ _ d0, World.cell?_setCell_other _ _ _ _ d1, World.cell?_setCell_other _ _ _ _ d2, c0, c1, c2, List.getD_eq_getElem?_getD, List.getD_eq_getElem?_getD, List.getElem?_set_ne (by omega)]
    exact ⟨rfl, rfl, rfl⟩
theorem rsetB {W : World} {b : Nat} {l : List R} (h : ROwn W b l) {k : Nat} (hk : k < l.length) (q : Int) :
    ROwn (W.setCell ⟨b, k * 3 + 1, none⟩ (.int .i64 q)) b (l.set k ((l.getD k R0).1, q, (l.getD k R0).2.2)) := by
  refine ⟨⟨by simpa using h.1.1, fun i hi => ?_⟩, fun j => by simpa [World.frozen?_setCell] using h.2 j⟩
  have hi' : i < l.length := by simpa using hi
  obtain ⟨c0, c1, c2⟩ := h.1.2 i hi'
  rw [Nat.zero_add] at c0 c1 c2 ⊢
  have d0 : (⟨b, k * 3 + 1, none⟩ : Addr) ≠ ⟨b, i * 3, none⟩ := fun he => by simp only [Addr.mk.injEq, and_true, true_and] at he; omega
  have d2 : (⟨b, k * 3 + 1, none⟩ : Addr) ≠ ⟨b, i * 3 + 2, none⟩ := fun he => by simp only [Addr.mk.injEq, and_true, true_and] at he; omega
  by_cases e : i = k
  · subst e
    rw [List.getD_eq_getElem?_getD, List.getElem?_set_self hi']
    exact ⟨by rw [World.cell?_setCell_other _ _ _ _ d0]; exact c0, World.cell?_setCell_same _ _ _ c1, by rw [World.cell?_setCell_other _ _ _ _ d2]; exact c2⟩
  · have d1 : (⟨b, k * 3 + 1, none⟩ : Addr) ≠ ⟨b, i * 3 + 1, none⟩ := fun he => by simp only [Addr.mk.injEq, and_true, true_and] at he; omega
    rw [World.cell?_setCell_other _ _ _ _ d0, World.cell?_setCell_other _ _ _ _ d1, World.cell?_setCell_other _ _ _ _ d2, c0, c1, c2, List.getD_eq_getElem?_getD, List.getD_eq_getElem?_getD, List.getElem?_set_ne (by omega)]
    exact ⟨rfl, rfl, rfl⟩
theorem rsetQ {W : World} {b : Nat} {l : List R} (h : ROwn W b l) {k : Nat} (hk : k < l.length) (q : Int) :
    ROwn (W.setCell ⟨b, k * 3 + 2, none⟩ (.int .i64 q)) b (l.set k ((l.getD k R0).1, (l.getD k R0).2.1, q)) := by
  refine ⟨⟨by simpa using h.1.1, fun i hi => ?_⟩, fun j => by simpa [World.frozen?_setCell] using h.2 j⟩
  have hi' : i < l.length := by simpa using hi
  obtain ⟨c0, c1, c2⟩ := h.1.2 i hi'
  rw [Nat.zero_add] at c0 c1 c2 ⊢
  have d0 : (⟨b, k * 3 + 2, none⟩ : Addr) ≠ ⟨b, i * 3, none⟩ := fun he => by simp only [Addr.mk.injEq, and_true, true_and] at he; omega
  have d1 : (⟨b, k * 3 + 2, none⟩ : Addr) ≠ ⟨b, i * 3 + 1, none⟩ := fun he => by simp only [Addr.mk.injEq, and_true, true_and] at he; omega
  by_cases e : i = k
  · subst e
    rw [List.getD_eq_getElem?_getD, List.getElem?_set_self hi']
    exact ⟨by rw [World.cell?_setCell_other _ _ _ _ d0]; exact c0, by rw [World.cell?_setCell_other _ _ _ _ d1]; exact c1, World.cell?_setCell_same _ _ _ c2⟩
  · have d2 : (⟨b, k * 3 + 2, none⟩ : Addr) ≠ ⟨b, i * 3 + 2, none⟩ := fun he => by simp only [Addr.mk.injEq, and_true, true_and] at he; omega
    rw [World.cell?_setCell_other _ _ _ _ d0, World.cell?_setCell_other _ _ _ _ d1, World.cell?_setCell_other _ _ _ _ d2, c0, c1, c2, List.getD_eq_getElem?_getD, List.getD_eq_getElem?_getD, List.getElem?_set_ne (by omega)]
    exact ⟨rfl, rfl, rfl⟩

/-- the marks of a row -/
def marksR (k n : Nat) : List R := (List.range n).map fun i => (mt (k + 3 * i), ((k + 3 * i + 1 : Nat) : Int), ((k + 3 * i + 2 : Nat) : Int))
theorem marksR_len (k n : Nat) : (marksR k n).length = n := by simp [marksR]
theorem marksR_step (k : Nat) (l : List R) (j : Nat) (h : j < l.length) : (marksR k j ++ l.drop j).set j (mt (k + 3 * j), ((k + 3 * j + 1 : Nat) : Int), ((k + 3 * j + 2 : Nat) : Int)) = marksR k (j + 1) ++ l.drop (j + 1) := by
  rw [List.set_append_right _ _ (by rw [marksR_len]; exact Nat.le_refl _), marksR_len, Nat.sub_self, List.drop_eq_getElem_cons h, List.set_cons_zero]
  have e : marksR k (j + 1) = marksR k j ++ [(mt (k + 3 * j), ((k + 3 * j + 1 : Nat) : Int), ((k + 3 * j + 2 : Nat) : Int))] := by
    unfold marksR
    rw [List.range_succ, List.map_append]
    rfl
  rw [e, List.append_assoc]
  rfl
theorem getD_setR {L : List R} {j : Nat} (h : j < L.length) (y : R) : (L.set j y).getD j R0 = y := by simp [List.getD, h]

set_option maxHeartbeats 1000000 in
/-- markBillRowS -/
theorem markRows (B : Nat) (v : Value) (l : List R) (k : Nat) (w : World) (h : RN B w v l) (hl : l.length ≤ 1048576) (h0 : 1 ≤ k) (h1 : k ≤ 100000000) :
    Calls Tryz.prog 15 #[v, .int .i64 (k : Int)] w fun e w' => e = .returned (.int .i64 ((k + 3 * l.length : Nat) : Int)) ∧ RN B w' v (marksR k l.length) ∧ ∃ r, w.grownBy w' r ∧ ∀ b, r = some b → v.ownBlock = some b ∧ l ≠ [] ∧ B ≤ b := by
  rcases h with ⟨rfl, a, c, rfl⟩ | ⟨b, cap, rfl, hB, hO⟩
  · go_enter Tryz.func15, Tryz.ntmps15
    go_wp2
    refine wp_loop_rounds 1 ?_
    rw [rounds_succ]
    go_wp2
    go_ret
    exact ⟨by simp, .inl ⟨rfl, _, _, rfl⟩, none, grow0 _ _, fun b hb => by simp at hb⟩
  · by_cases hne : l = []
    · subst hne
      clear hO
      go_enter Tryz.func15, Tryz.ntmps15
      go_wp2
      refine wp_loop_rounds 1 ?_
      rw [rounds_succ]
      go_wp2
      go_ret
      exact ⟨by simp, .inl ⟨rfl, _, _, rfl⟩, none, grow0 _ _, fun b hb => by simp at hb⟩
    have HO := hide hO
    clear hO
    go_enter Tryz.func15, Tryz.ntmps15
    go_wp2
    go_loopw [1, 5] (fun t i wr => ∃ j : Nat, j ≤ l.length ∧ i = .int .i64 j ∧ t = .int .i64 ((k + 3 * j : Nat) : Int) ∧ Hid (ROwn wr b (marksR k j ++ l.drop j)) ∧ Hid (w.grownBy wr (some b))) (fun _ i _ => l.length - (intOf i).toNat)
    case atStart => exact ⟨0, Nat.zero_le _, rfl, by simp, by show ROwn _ _ _; simpa [marksR] using unhide HO, hide (grow0 _ _)⟩
    case round =>
      obtain ⟨j, hj, rfl, rfl, hd, hg⟩ := hrel
      by_cases hlt : j < l.length
      · have hj2 : j < (marksR k j ++ l.drop j).length := by rw [List.length_append, marksR_len, List.length_drop]; omega
        have HS := hide (marksR_step k l j hlt)
        generalize marksR k j ++ l.drop j = L at *
        have i1 : (0 : Int) ≤ (j : Int) := by omega
        have i2 : (j : Int) < (l.length : Int) := by omega
        go_wp2_with (fail)
        refine (markT (k + 3 * j) wr (by omega) (by omega)).mono ?_
        rintro e w1 ⟨rfl, hb1⟩
        have ho1 := (unhide hd).kept hb1
        obtain ⟨c0, c1, c2⟩ := ho1.1.2 j hj2
        have f0 := ho1.2 (j * 3)
        have f1 := ho1.2 (j * 3 + 1)
        have f2 := ho1.2 (j * 3 + 2)
        rw [Nat.zero_add] at c0 c1 c2
        have ho2 := rsetA ho1 hj2 (mt (k + 3 * j))
        generalize hy0 : L.getD j R0 = y0 at *
        have hj3 : j < (L.set j (mt (k + 3 * j), y0.2.1, y0.2.2)).length := by simpa using hj2
        have ho4 := rsetB ho2 hj3 ((k + 3 * j + 1 : Nat) : Int)
        rw [getD_setR hj2, List.set_set] at ho4
        have hj4 : j < (L.set j (mt (k + 3 * j), ((k + 3 * j + 1 : Nat) : Int), y0.2.2)).length := by simpa using hj2
        have ho5 := rsetQ ho4 hj4 ((k + 3 * j + 2 : Nat) : Int)
        rw [getD_setR hj2, List.set_set] at ho5
        have O5 := hide ho5
        have G5 := hide (growT (growT (growT (unhide hg) (growT (growB hb1 (some b)) (growS w1 b (j * 3) (.string (mt (k + 3 * j)))))) (growS _ b (j * 3 + 1) (.int .i64 ((k + 3 * j + 1 : Nat) : Int)))) (growS _ b (j * 3 + 2) (.int .i64 ((k + 3 * j + 2 : Nat) : Int))))
        have e1 : ((k + 3 * j : Nat) : Int) + 1 = ((k + 3 * j + 1 : Nat) : Int) := by omega
        have e3 : ((k + 3 * j + 1 : Nat) : Int) + 1 = ((k + 3 * j + 2 : Nat) : Int) := by omega
        clear ho1 ho2 ho4 ho5 hb1 hd hg hj3 hj4
        rw [unhide HS] at O5
        clear HS
        generalize mt (k + 3 * j) = m1 at *
        go_wp2
        exact ⟨⟨j + 1, by omega, by go_num, by congr 1, O5, G5⟩, by simp [intOf]; omega⟩
      · obtain rfl : j = l.length := by omega
        go_wp2
        go_ret
        refine ⟨rfl, .inr ⟨b, cap, by rw [marksR_len], ⟨hB.1, by rw [marksR_len]; exact hB.2⟩, ?_⟩, some b, unhide hg, fun b' hb' => by cases hb'; exact ⟨rfl, hne, hB.1⟩⟩
        have := unhide hd
        simpa using this

theorem marksR_at {k n j : Nat} (h : j < n) : (marksR k n).getD j R0 = (mt (k + 3 * j), ((k + 3 * j + 1 : Nat) : Int), ((k + 3 * j + 2 : Nat) : Int)) := by simp [marksR, List.getD, h]

set_option maxHeartbeats 1000000 in
/-- heldBillRowS, of a row that holds its marks -/
theorem heldRows (v : Value) (n k : Nat) (w : World) (h : RR w v (marksR k n)) (hl : n ≤ 1048576) (h0 : 1 ≤ k) (h1 : k ≤ 100000000) :
    Calls Tryz.prog 16 #[v, .int .i64 (k : Int)] w fun e w' => e = .returned (.int .i64 ((k + 3 * n : Nat) : Int)) ∧ Below w.heap.size w w' := by
  rcases h with ⟨hn, a, c, rfl⟩ | ⟨b, o, cap, rfl, hc⟩
  · have : n = 0 := by have := congrArg List.length hn; rw [marksR_len] at this; exact this
    subst this
    clear hn
    go_enter Tryz.func16, Tryz.ntmps16
    go_wp2
    refine wp_loop_rounds 1 ?_
    rw [rounds_succ]
    go_wp2
    go_ret
    exact ⟨by simp, Below.refl _ _⟩
  · rw [marksR_len]
    have HC := hide hc
    have hbs := hc.1
    clear hc
    go_enter Tryz.func16, Tryz.ntmps16
    go_wp2
    go_loopw [1, 5] (fun t i wr => ∃ j : Nat, j ≤ n ∧ i = .int .i64 j ∧ t = .int .i64 ((k + 3 * j : Nat) : Int) ∧ Hid (Below w.heap.size w wr)) (fun _ i _ => n - (intOf i).toNat)
    case atStart => exact ⟨0, Nat.zero_le _, rfl, by simp, hide (Below.refl _ _)⟩
    case round =>
      obtain ⟨j, hj, rfl, rfl, hb⟩ := hrel
      by_cases hlt : j < n
      · have HCW : Hid (∀ w2 : World, Below w.heap.size w w2 → w2.cell? ⟨b, o + j * 3, none⟩ = some (.string (mt (k + 3 * j))) ∧ w2.cell? ⟨b, o + j * 3 + 1, none⟩ = some (.int .i64 ((k + 3 * j + 1 : Nat) : Int)) ∧ w2.cell? ⟨b, o + j * 3 + 2, none⟩ = some (.int .i64 ((k + 3 * j + 2 : Nat) : Int))) := hide (fun w2 h2 => by
          have := ((unhide HC).kept h2).2 j (by rw [marksR_len]; exact hlt)
          rw [marksR_at hlt] at this
          exact this)
        have g0 : ∀ g : In (Below w.heap.size w), g.x.cell? ⟨b, o + j * 3, none⟩ = some (.string (mt (k + 3 * j))) := fun g => (unhide HCW g.x g.h).1
        have HC1 : Hid (∀ g : In (Below w.heap.size w), Calls Tryz.prog 32 #[.int .i64 ((k + 3 * j : Nat) : Int)] g.x fun x w' => x = .returned (.string (mt (k + 3 * j))) ∧ Below w.heap.size w w') := hide (fun g => (markT (k + 3 * j) g.x (by omega) (by omega)).mono (fun x w' ⟨hx, h2⟩ => ⟨hx, below_trans g.h h2⟩))
        have i1 : (0 : Int) ≤ (j : Int) := by omega
        have i2 : (j : Int) < (n : Int) := by omega
        have q1 : (!(mt (k + 3 * j)).toList == (mt (k + 3 * j)).toList) = false := by simp
        generalize mt (k + 3 * j) = m1 at *
        have e1 : ((k + 3 * j : Nat) : Int) + 1 = ((k + 3 * j + 1 : Nat) : Int) := by omega
        have e3 : ((k + 3 * j + 1 : Nat) : Int) + 1 = ((k + 3 * j + 2 : Nat) : Int) := by omega
        go_wp2
        refine wp_region_in (Below w.heap.size w) (by kernel_rfl) (by kernel_rfl) (below_drewN' (unhide hb) 1) ?_
        intro hne
        repeat (go_big_quiet_step (exact call_in _ (unhide HC1 _)))
        refine wpQuiet_nil ?_
        rintro _ ⟨g, rfl⟩
        have B2 := hide g.h
        have c1 := (unhide HCW g.x g.h).2.1
        have c2 := (unhide HCW g.x g.h).2.2
        clear hb
        have q2 : (((k + 3 * j + 1 : Nat) : Int) != ((k + 3 * j + 1 : Nat) : Int)) = false := by simp
        have q3 : (((k + 3 * j + 2 : Nat) : Int) != ((k + 3 * j + 2 : Nat) : Int)) = false := by simp
        go_wp2
        exact ⟨⟨j + 1, by omega, by go_num, by congr 1, B2⟩, by simp [intOf]; omega⟩
      · obtain rfl : j = n := by omega
        go_wp2
        go_ret
        exact ⟨rfl, unhide hb⟩
end Go.Proofs.YtnchgeiinkaefaaGreatDoor.BRow
end

section
/-
  An expression that is right but for its kids (spec.l2Kids, spec.l2Node).
-/
namespace Go.Proofs.YtnchgeiinkaefaaGreatDoor.Rule
set_option linter.unusedVariables false
open Go.RowKit Tiers
open Kinds hiding hide unhide below_trans ext_toList

/-- all but the kids is as the kind has it -/
def fitsB (k n : Int) (m : ByteArray) (ts : List T) : Bool :=
  if k = 1 then decide (-1000000000 ≤ n ∧ n ≤ 1000000000) && decide (m.size = 0) && decide (ts.length = 0)
  else if k = 2 then nameB m && decide (n = 0) && decide (ts.length = 0)
  else if k = 6 then decide (0 ≤ n ∧ n ≤ 1000000) && decide (m.size = 0) && decide (ts.length = 0)
  else if k = 10 then rightB ts && decide (n = 0) && decide (m.size = 0)
  else decide (n = 0) && decide (m.size = 0) && decide (ts.length = 0)
/-- an expression is right, but for its kids -/
def nodeB (k n : Int) (m : ByteArray) (nk : Nat) (ts : List T) : Bool := decide (1 ≤ k ∧ k ≤ 10 ∧ (nk : Int) = kidsK k) && fitsB k n m ts

theorem kidsK_in {k : Int} (h : 0 ≤ kidsK k) : 1 ≤ k ∧ k ≤ 10 := by
  unfold kidsK at h
  split at h
  · omega
  split at h
  · omega
  split at h
  · omega
  split at h
  · omega
  · omega
theorem nodeB_kids {k n : Int} {m : ByteArray} {nk : Nat} {ts : List T} (h : (nk : Int) ≠ kidsK k) : nodeB k n m nk ts = false := by
  unfold nodeB; rw [decide_eq_false (by rintro ⟨_, _, h3⟩; exact h h3)]; rfl
theorem nodeB_fits {k n : Int} {m : ByteArray} {nk : Nat} {ts : List T} (h : (nk : Int) = kidsK k) : nodeB k n m nk ts = fitsB k n m ts := by
  have := kidsK_in (k := k) (by omega)
  unfold nodeB; rw [decide_eq_true ⟨this.1, this.2, h⟩]; rfl
theorem nameB_empty {m : ByteArray} (h : m.size = 0) : nameB m = false := nameB_size (by omega)
theorem rightB_empty {ts : List T} (h : ts.length = 0) : rightB ts = false := rightB_size (by omega)
theorem fits_tiers {k n : Int} {m : ByteArray} {ts : List T} (h : ¬ (k = 10 ↔ 0 < ts.length)) : fitsB k n m ts = false := by
  unfold fitsB
  by_cases h10 : k = 10
  · subst h10
    have : ts.length = 0 := by omega
    simp [rightB_empty this]
  · have : ¬ ts.length = 0 := by omega
    split
    · simp [this]
    split
    · simp [this]
    split
    · simp [this]
    · simp [this]
theorem fits_meter {k n : Int} {m : ByteArray} {ts : List T} (h : ¬ (k = 2 ↔ m.size ≠ 0)) : fitsB k n m ts = false := by
  unfold fitsB
  by_cases h2 : k = 2
  · subst h2
    have : m.size = 0 := by omega
    simp [nameB_empty this]
  · have : ¬ m.size = 0 := by omega
    rw [decide_eq_false this]
    simp [h2]

set_option maxHeartbeats 1000000 in
/-- spec.l2Kids -/
theorem kidsS (k : Int) (w : World) : Calls Tryz.prog 82 #[.int .i64 k] w fun e w' => e = .returned (.int .i64 (kidsK k)) ∧ w' = w := by
  by_cases h : 1 ≤ k ∧ k ≤ 10
  · rcases cases10 h with rfl | rfl | rfl | rfl | rfl | rfl | rfl | rfl | rfl | rfl
    all_goals
      clear h
      go_enter Tryz.func82, Tryz.ntmps82
      go_wp2
      go_ret
      exact ⟨rfl, rfl⟩
  · have e : kidsK k = -1 := by
      unfold kidsK
      rw [if_neg (by omega), if_neg (by omega), if_neg (by omega), if_neg (by omega)]
    rw [e]
    have n1 : (k == 1) = false := beq_eq_false_iff_ne.2 (by omega)
    have n2 : (k == 2) = false := beq_eq_false_iff_ne.2 (by omega)
    have n6 : (k == 6) = false := beq_eq_false_iff_ne.2 (by omega)
    have n9 : (k == 9) = false := beq_eq_false_iff_ne.2 (by omega)
    have n10 : (k == 10) = false := beq_eq_false_iff_ne.2 (by omega)
    clear e
    by_cases h3 : 3 ≤ k
    · have h8 : ¬ k ≤ 8 := by omega
      clear h
      go_enter Tryz.func82, Tryz.ntmps82
      go_wp2
      go_ret
      exact ⟨rfl, rfl⟩
    · clear h
      go_enter Tryz.func82, Tryz.ntmps82
      go_wp2
      go_ret
      exact ⟨rfl, rfl⟩

theorem isEmpty_yes {m : ByteArray} (h : m.size = 0) : m.toList.isEmpty = true := by
  rw [Lib.toList_data, List.isEmpty_iff]
  exact List.length_eq_zero_iff.1 (by simpa using h)
theorem isEmpty_no {m : ByteArray} (h : m.size ≠ 0) : m.toList.isEmpty = false := by
  rw [Lib.toList_data, List.isEmpty_eq_false_iff]
  exact fun e => h (by have := congrArg List.length e; simpa using this)

set_option maxHeartbeats 1000000 in
theorem nodeS_bad (k n : Int) (m : ByteArray) (ka ta : Option Addr) (nk kc tn tc : Nat) (w : World) (h1 : nk ≤ maxLen) (h2 : tn ≤ maxLen) (h : (nk : Int) ≠ kidsK k ∨ ¬ (k = 10 ↔ 0 < tn) ∨ ¬ (k = 2 ↔ m.size ≠ 0)) :
    Calls Tryz.prog 112 #[.agg #[.int .i64 k, .int .i64 n, .string m, .slice ka nk kc, .slice ta tn tc]] w fun e w' => e = .returned (.bool false) ∧ Below w.heap.size w w' := by
  unfold maxLen at h1 h2
  by_cases hn : (nk : Int) = kidsK k
  · have b1 : ((nk : Int) != kidsK k) = false := by simp [hn]
    have h' := h.resolve_left (fun e => e hn)
    clear h hn
    by_cases k10 : k = 10
    all_goals by_cases t0 : 0 < tn
    all_goals first | (have b2 : (k == 10) = true := beq_iff_eq.2 (by omega)) | (have b2 : (k == 10) = false := beq_eq_false_iff_ne.2 (by omega))
    all_goals first | (have b3 : decide (0 < tn) = true := decide_eq_true (by omega)) | (have b3 : decide (0 < tn) = false := decide_eq_false (by omega))
    all_goals by_cases k2 : k = 2
    all_goals by_cases m0 : m.size = 0
    all_goals first | (exfalso; omega) | skip
    all_goals first | (have b4 : (k == 2) = true := beq_iff_eq.2 (by omega)) | (have b4 : (k == 2) = false := beq_eq_false_iff_ne.2 (by omega))
    all_goals first | (have b5 := isEmpty_yes m0) | (have b5 := isEmpty_no m0)
    all_goals clear k10 t0 k2 m0 h'
    all_goals go_enter Tryz.func112, Tryz.ntmps112
    all_goals go_wp2
    all_goals go_quiet ((go_at_call 82; exact Calls.quiet_of_same (kidsS _ _)))
    all_goals go_wp2
    all_goals go_ret
    all_goals exact ⟨rfl, below_drewN' (below_alloc _ _) _⟩
  · have b1 : ((nk : Int) != kidsK k) = true := bne_iff_ne.2 hn
    clear h hn
    go_enter Tryz.func112, Tryz.ntmps112
    go_wp2
    go_quiet ((go_at_call 82; exact Calls.quiet_of_same (kidsS _ _)))
    go_wp2
    go_ret
    exact ⟨rfl, below_drewN' (below_alloc _ _) _⟩

set_option maxHeartbeats 2000000 in
theorem nodeS_ok (k n : Int) (m : ByteArray) (ka ta : Option Addr) (nk kc tc : Nat) (ts : List T) (w : World) (h1 : nk ≤ maxLen) (z1 : m.size ≤ maxLen) (z2 : ts.length ≤ 1048576) (hT : TR w (.slice ta ts.length tc) ts) (hn : (nk : Int) = kidsK k) (ht : k = 10 ↔ 0 < ts.length) (hm : k = 2 ↔ m.size ≠ 0) :
    Calls Tryz.prog 112 #[.agg #[.int .i64 k, .int .i64 n, .string m, .slice ka nk kc, .slice ta ts.length tc]] w fun e w' => e = .returned (.bool (fitsB k n m ts)) ∧ Below w.heap.size w w' := by
  have HT := hide hT
  clear hT
  unfold maxLen at h1
  have hk := kidsK_in (k := k) (by omega)
  rcases cases10 hk with rfl | rfl | rfl | rfl | rfl | rfl | rfl | rfl | rfl | rfl
  · -- 1
    have b3 : decide (0 < ts.length) = false := decide_eq_false (by omega)
    have m0 : m.size = 0 := by omega
    have b5 := isEmpty_yes m0
    have t0 : ts.length = 0 := by omega
    by_cases r1 : -1000000000 ≤ n
    · by_cases r2 : n ≤ 1000000000
      · have e : fitsB 1 n m ts = true := by simp [fitsB, m0, t0]; omega
        rw [e]
        clear e m0 t0 ht hm
        have b1 : (((nk : Int)) != kidsK 1) = false := by simp [hn]
        clear hn
        go_enter Tryz.func112, Tryz.ntmps112
        go_wp2
        go_quiet ((go_at_call 82; exact Calls.quiet_of_same (kidsS _ _)))
        go_wp2_with (fail)
        go_ret
        exact ⟨rfl, below_drewN' (below_alloc _ _) _⟩
      · have e : fitsB 1 n m ts = false := by simp [fitsB, m0, t0]; omega
        rw [e]
        have r3 : decide (n ≤ 1000000000) = false := decide_eq_false r2
        clear e m0 t0 ht hm
        have b1 : (((nk : Int)) != kidsK 1) = false := by simp [hn]
        clear hn
        go_enter Tryz.func112, Tryz.ntmps112
        go_wp2
        go_quiet ((go_at_call 82; exact Calls.quiet_of_same (kidsS _ _)))
        go_wp2_with (fail)
        go_ret
        exact ⟨rfl, below_drewN' (below_alloc _ _) _⟩
    · have e : fitsB 1 n m ts = false := by simp [fitsB, m0, t0]; omega
      rw [e]
      clear e m0 t0 ht hm
      have b1 : (((nk : Int)) != kidsK 1) = false := by simp [hn]
      clear hn
      go_enter Tryz.func112, Tryz.ntmps112
      go_wp2
      go_quiet ((go_at_call 82; exact Calls.quiet_of_same (kidsS _ _)))
      go_wp2_with (fail)
      go_ret
      exact ⟨rfl, below_drewN' (below_alloc _ _) _⟩
  · -- 2
    have b3 : decide (0 < ts.length) = false := decide_eq_false (by omega)
    have m0 : m.size ≠ 0 := by omega
    have b5 := isEmpty_no m0
    have t0 : ts.length = 0 := by omega
    by_cases n0 : n = 0
    · have e : fitsB 2 n m ts = nameB m := by simp [fitsB, n0, t0]
      rw [e]
      have b6 : (n == 0) = true := by simp [n0]
      clear e m0 t0 ht hm n0
      have b1 : (((nk : Int)) != kidsK 2) = false := by simp [hn]
      clear hn
      go_enter Tryz.func112, Tryz.ntmps112
      go_wp2
      go_quiet ((go_at_call 82; exact Calls.quiet_of_same (kidsS _ _)))
      go_wp2_with (fail)
      refine (nameS m _ z1).mono ?_
      rintro e w1 ⟨rfl, hb1⟩
      have HB := hide (below_trans (below_drewN' (below_alloc _ _) _) hb1)
      clear hb1
      go_wp2_with (fail)
      go_ret
      exact ⟨rfl, unhide HB⟩
    · have e : fitsB 2 n m ts = false := by simp [fitsB, n0]
      rw [e]
      have b6 : (n == 0) = false := by simp [n0]
      clear e m0 t0 ht hm n0
      have b1 : (((nk : Int)) != kidsK 2) = false := by simp [hn]
      clear hn
      go_enter Tryz.func112, Tryz.ntmps112
      go_wp2
      go_quiet ((go_at_call 82; exact Calls.quiet_of_same (kidsS _ _)))
      go_wp2_with (fail)
      go_ret
      exact ⟨rfl, below_drewN' (below_alloc _ _) _⟩
  · -- 3
    have b3 : decide (0 < ts.length) = false := decide_eq_false (by omega)
    have m0 : m.size = 0 := by omega
    have b5 := isEmpty_yes m0
    have t0 : ts.length = 0 := by omega
    have e : fitsB 3 n m ts = (n == 0) := by rw [Bool.eq_iff_iff]; simp [fitsB, m0, t0]
    rw [e]
    clear e m0 t0 ht hm
    have b1 : (((nk : Int)) != kidsK 3) = false := by simp [hn]
    clear hn
    go_enter Tryz.func112, Tryz.ntmps112
    go_wp2
    go_quiet ((go_at_call 82; exact Calls.quiet_of_same (kidsS _ _)))
    go_wp2_with (fail)
    go_ret
    exact ⟨rfl, below_drewN' (below_alloc _ _) _⟩
  · -- 4
    have b3 : decide (0 < ts.length) = false := decide_eq_false (by omega)
    have m0 : m.size = 0 := by omega
    have b5 := isEmpty_yes m0
    have t0 : ts.length = 0 := by omega
    have e : fitsB 4 n m ts = (n == 0) := by rw [Bool.eq_iff_iff]; simp [fitsB, m0, t0]
    rw [e]
    clear e m0 t0 ht hm
    have b1 : (((nk : Int)) != kidsK 4) = false := by simp [hn]
    clear hn
    go_enter Tryz.func112, Tryz.ntmps112
    go_wp2
    go_quiet ((go_at_call 82; exact Calls.quiet_of_same (kidsS _ _)))
    go_wp2_with (fail)
    go_ret
    exact ⟨rfl, below_drewN' (below_alloc _ _) _⟩
  · -- 5
    have b3 : decide (0 < ts.length) = false := decide_eq_false (by omega)
    have m0 : m.size = 0 := by omega
    have b5 := isEmpty_yes m0
    have t0 : ts.length = 0 := by omega
    have e : fitsB 5 n m ts = (n == 0) := by rw [Bool.eq_iff_iff]; simp [fitsB, m0, t0]
    rw [e]
    clear e m0 t0 ht hm
    have b1 : (((nk : Int)) != kidsK 5) = false := by simp [hn]
    clear hn
    go_enter Tryz.func112, Tryz.ntmps112
    go_wp2
    go_quiet ((go_at_call 82; exact Calls.quiet_of_same (kidsS _ _)))
    go_wp2_with (fail)
    go_ret
    exact ⟨rfl, below_drewN' (below_alloc _ _) _⟩
  · -- 6
    have b3 : decide (0 < ts.length) = false := decide_eq_false (by omega)
    have m0 : m.size = 0 := by omega
    have b5 := isEmpty_yes m0
    have t0 : ts.length = 0 := by omega
    by_cases r1 : 0 ≤ n
    · by_cases r2 : n ≤ 1000000
      · have e : fitsB 6 n m ts = true := by simp [fitsB, m0, t0]; omega
        rw [e]
        clear e m0 t0 ht hm
        have b1 : (((nk : Int)) != kidsK 6) = false := by simp [hn]
        clear hn
        go_enter Tryz.func112, Tryz.ntmps112
        go_wp2
        go_quiet ((go_at_call 82; exact Calls.quiet_of_same (kidsS _ _)))
        go_wp2_with (fail)
        go_ret
        exact ⟨rfl, below_drewN' (below_alloc _ _) _⟩
      · have e : fitsB 6 n m ts = false := by simp [fitsB, m0, t0]; omega
        rw [e]
        have r3 : decide (n ≤ 1000000) = false := decide_eq_false r2
        clear e m0 t0 ht hm
        have b1 : (((nk : Int)) != kidsK 6) = false := by simp [hn]
        clear hn
        go_enter Tryz.func112, Tryz.ntmps112
        go_wp2
        go_quiet ((go_at_call 82; exact Calls.quiet_of_same (kidsS _ _)))
        go_wp2_with (fail)
        go_ret
        exact ⟨rfl, below_drewN' (below_alloc _ _) _⟩
    · have e : fitsB 6 n m ts = false := by simp [fitsB, m0, t0]; omega
      rw [e]
      clear e m0 t0 ht hm
      have b1 : (((nk : Int)) != kidsK 6) = false := by simp [hn]
      clear hn
      go_enter Tryz.func112, Tryz.ntmps112
      go_wp2
      go_quiet ((go_at_call 82; exact Calls.quiet_of_same (kidsS _ _)))
      go_wp2_with (fail)
      go_ret
      exact ⟨rfl, below_drewN' (below_alloc _ _) _⟩
  · -- 7
    have b3 : decide (0 < ts.length) = false := decide_eq_false (by omega)
    have m0 : m.size = 0 := by omega
    have b5 := isEmpty_yes m0
    have t0 : ts.length = 0 := by omega
    have e : fitsB 7 n m ts = (n == 0) := by rw [Bool.eq_iff_iff]; simp [fitsB, m0, t0]
    rw [e]
    clear e m0 t0 ht hm
    have b1 : (((nk : Int)) != kidsK 7) = false := by simp [hn]
    clear hn
    go_enter Tryz.func112, Tryz.ntmps112
    go_wp2
    go_quiet ((go_at_call 82; exact Calls.quiet_of_same (kidsS _ _)))
    go_wp2_with (fail)
    go_ret
    exact ⟨rfl, below_drewN' (below_alloc _ _) _⟩
  · -- 8
    have b3 : decide (0 < ts.length) = false := decide_eq_false (by omega)
    have m0 : m.size = 0 := by omega
    have b5 := isEmpty_yes m0
    have t0 : ts.length = 0 := by omega
    have e : fitsB 8 n m ts = (n == 0) := by rw [Bool.eq_iff_iff]; simp [fitsB, m0, t0]
    rw [e]
    clear e m0 t0 ht hm
    have b1 : (((nk : Int)) != kidsK 8) = false := by simp [hn]
    clear hn
    go_enter Tryz.func112, Tryz.ntmps112
    go_wp2
    go_quiet ((go_at_call 82; exact Calls.quiet_of_same (kidsS _ _)))
    go_wp2_with (fail)
    go_ret
    exact ⟨rfl, below_drewN' (below_alloc _ _) _⟩
  · -- 9
    have b3 : decide (0 < ts.length) = false := decide_eq_false (by omega)
    have m0 : m.size = 0 := by omega
    have b5 := isEmpty_yes m0
    have t0 : ts.length = 0 := by omega
    have e : fitsB 9 n m ts = (n == 0) := by rw [Bool.eq_iff_iff]; simp [fitsB, m0, t0]
    rw [e]
    clear e m0 t0 ht hm
    have b1 : (((nk : Int)) != kidsK 9) = false := by simp [hn]
    clear hn
    go_enter Tryz.func112, Tryz.ntmps112
    go_wp2
    go_quiet ((go_at_call 82; exact Calls.quiet_of_same (kidsS _ _)))
    go_wp2_with (fail)
    go_ret
    exact ⟨rfl, below_drewN' (below_alloc _ _) _⟩
  · -- 10
    have b3 : decide (0 < ts.length) = true := decide_eq_true (by omega)
    have m0 : m.size = 0 := by omega
    have b5 := isEmpty_yes m0
    by_cases n0 : n = 0
    · have e : fitsB 10 n m ts = rightB ts := by simp [fitsB, n0, m0]
      rw [e]
      have b6 : (n == 0) = true := by simp [n0]
      clear e m0 ht hm n0
      have b1 : (((nk : Int)) != kidsK 10) = false := by simp [hn]
      clear hn
      go_enter Tryz.func112, Tryz.ntmps112
      go_wp2
      go_quiet ((go_at_call 82; exact Calls.quiet_of_same (kidsS _ _)))
      go_wp2_with (fail)
      refine (rightS _ ts _ ((unhide HT).kept (below_drewN' (below_alloc _ _) _)) z2).mono ?_
      rintro e w1 ⟨rfl, hb1⟩
      have HB := hide (below_trans (below_drewN' (below_alloc _ _) _) hb1)
      clear hb1
      go_wp2_with (fail)
      go_ret
      exact ⟨rfl, unhide HB⟩
    · have e : fitsB 10 n m ts = false := by simp [fitsB, n0]
      rw [e]
      have b6 : (n == 0) = false := by simp [n0]
      clear e m0 ht hm n0
      have b1 : (((nk : Int)) != kidsK 10) = false := by simp [hn]
      clear hn
      go_enter Tryz.func112, Tryz.ntmps112
      go_wp2
      go_quiet ((go_at_call 82; exact Calls.quiet_of_same (kidsS _ _)))
      go_wp2_with (fail)
      go_ret
      exact ⟨rfl, below_drewN' (below_alloc _ _) _⟩

/-- spec.l2Node -/
theorem nodeS (k n : Int) (m : ByteArray) (ka ta : Option Addr) (nk kc tc : Nat) (ts : List T) (w : World) (h1 : nk ≤ maxLen) (z1 : m.size ≤ maxLen) (z2 : ts.length ≤ 1048576) (hT : TR w (.slice ta ts.length tc) ts) :
    Calls Tryz.prog 112 #[.agg #[.int .i64 k, .int .i64 n, .string m, .slice ka nk kc, .slice ta ts.length tc]] w fun e w' => e = .returned (.bool (nodeB k n m nk ts)) ∧ Below w.heap.size w w' := by
  by_cases hn : (nk : Int) = kidsK k
  · rw [nodeB_fits hn]
    by_cases ht : k = 10 ↔ 0 < ts.length
    · by_cases hm : k = 2 ↔ m.size ≠ 0
      · exact nodeS_ok k n m ka ta nk kc tc ts w h1 z1 z2 hT hn ht hm
      · rw [fits_meter hm]
        exact nodeS_bad k n m ka ta nk kc _ tc w h1 (by unfold maxLen; omega) (.inr (.inr hm))
    · rw [fits_tiers ht]
      exact nodeS_bad k n m ka ta nk kc _ tc w h1 (by unfold maxLen; omega) (.inr (.inl ht))
  · rw [nodeB_kids hn]
    exact nodeS_bad k n m ka ta nk kc _ tc w h1 (by unfold maxLen; omega) (.inl hn)
end Go.Proofs.YtnchgeiinkaefaaGreatDoor.Rule
end

section
/-
  spec.l2Size, spec.RuleOk.
-/
namespace Go.Proofs.YtnchgeiinkaefaaGreatDoor.Rule
set_option linter.unusedVariables false
open Go.RowKit Tiers
open Kinds hiding hide unhide below_trans ext_toList

mutual
/-- all are right -/
def allB : Ex → Bool | .mk k n m ks ts => nodeB k n m ks.length ts && allL ks
def allL : List Ex → Bool | [] => true | e :: es => allB e && allL es
end
/-- RuleOk -/
def okE (e : Ex) : Bool := allB e && decide (cnt e ≤ 40) && decide (dep e ≤ 8)
def nodeE (e : Ex) : Bool := nodeB e.kind e.num e.meter e.kids.length e.tiers
theorem allB_eq (e : Ex) : allB e = (nodeE e && allL e.kids) := by cases e; rfl
theorem allL_append : ∀ a b : List Ex, allL (a ++ b) = (allL a && allL b)
  | [], b => rfl
  | e :: es, b => by rw [List.cons_append, allL, allL, allL_append es b, Bool.and_assoc]
theorem allL_take {l : List Ex} {k : Nat} (h : k < l.length) : allL (l.take (k + 1)) = (allL (l.take k) && allB (l.getD k E0)) := by
  rw [take_at h, allL_append]; simp [allL]
theorem allL_false {l : List Ex} {k : Nat} (h : allL (l.take k) = false) : allL l = false := by
  have h' := allL_append (l.take k) (l.drop k)
  rw [List.take_append_drop, h] at h'
  simpa using h'

/-- what l2Size tells -/
def SizeOk (e : Ex) (n dd : Int) (ok : Bool) : Prop := 1 ≤ n ∧ n ≤ cnt e ∧ 1 ≤ dd ∧ dd ≤ dep e ∧ (ok = true → n = cnt e ∧ dd = dep e ∧ allB e = true) ∧ (ok = false → allB e = false ∨ 40 < cnt e)
/-- .. behind k kids -/
def SizeAt (e : Ex) (k : Nat) (n dd : Int) (ok : Bool) : Prop := 1 ≤ n ∧ n ≤ 1 + cntL (e.kids.take k) ∧ 0 ≤ dd ∧ dd ≤ depL (e.kids.take k) ∧
  (ok = true → n = 1 + cntL (e.kids.take k) ∧ dd = depL (e.kids.take k) ∧ nodeE e = true ∧ allL (e.kids.take k) = true) ∧ (ok = false → nodeE e = false ∨ allL (e.kids.take k) = false ∨ 40 < 1 + cntL (e.kids.take k))
theorem SizeAt.start (e : Ex) : SizeAt e 0 1 0 (nodeE e) := by
  refine ⟨by omega, by simp [cntL], by omega, by simp, fun h => ⟨by simp [cntL], by simp [depL], h, rfl⟩, fun h => .inl h⟩
theorem SizeAt.step {e : Ex} {k : Nat} {n dd a b : Int} {c : Bool} (h : SizeAt e k n dd true) (hk : k < e.kids.length) (hs : SizeOk (e.kids.getD k E0) a b c) :
    SizeAt e (k + 1) (n + a) (if dd < b then b else dd) (c && decide (n + a ≤ 40)) := by
  obtain ⟨h1, h2, h3, h4, h5, _⟩ := h
  obtain ⟨e1, e2, e3, e4⟩ := h5 rfl
  obtain ⟨s1, s2, s3, s4, s5, s6⟩ := hs
  have c1 := cntL_take hk
  have d1 := depL_take hk
  have a1 := allL_take hk
  unfold SizeAt
  rw [c1, d1, a1]
  refine ⟨by omega, by omega, by split <;> omega, by split <;> omega, fun h => ?_, fun h => ?_⟩
  · simp only [Bool.and_eq_true, decide_eq_true_eq] at h
    obtain ⟨t1, t2, t3⟩ := s5 h.1
    refine ⟨by omega, by split <;> omega, e3, by rw [e4, t3]; rfl⟩
  · cases hc : c
    · rcases s6 hc with s | s
      · exact .inr (.inl (by rw [s]; simp))
      · exact .inr (.inr (by omega))
    · rw [hc] at h
      simp only [Bool.true_and, decide_eq_false_iff_not] at h
      exact .inr (.inr (by omega))
theorem SizeAt.done {e : Ex} {k : Nat} {n dd : Int} {ok : Bool} (h : SizeAt e k n dd ok) (hk : ok = false ∨ e.kids.length ≤ k) : SizeOk e n (dd + 1) ok := by
  obtain ⟨h1, h2, h3, h4, h5, h6⟩ := h
  have c1 := cntL_le e.kids k
  have d1 := depL_le e.kids k
  refine ⟨h1, by rw [cnt_eq]; omega, by omega, by rw [dep_eq]; omega, fun h => ?_, fun h => ?_⟩
  · have hk' : e.kids.length ≤ k := hk.resolve_left (by rw [h]; simp)
    obtain ⟨e1, e2, e3, e4⟩ := h5 h
    rw [List.take_of_length_le hk'] at e1 e2 e4
    rw [cnt_eq, dep_eq, allB_eq, e3, e4]
    exact ⟨by omega, by omega, rfl⟩
  · rw [cnt_eq, allB_eq]
    rcases h6 h with s | s | s
    · exact .inl (by rw [s]; rfl)
    · exact .inl (by rw [allL_false s]; simp)
    · exact .inr (by omega)

def SizeE (d : Nat) : Prop := ∀ (lo hi : Nat) (v : Value) (e : Ex) (w : World), EV lo hi w d v e → hi ≤ w.heap.size → wt e ≤ 1048576 →
  Calls Tryz.prog 86 #[v] w fun x w' => ∃ (n dd : Int) (ok : Bool), x = .returned (.tuple #[.int .i64 n, .int .i64 dd, .bool ok]) ∧ SizeOk e n dd ok ∧ Below w.heap.size w w'

set_option maxHeartbeats 1600000 in
theorem sizeE_nil (lo hi : Nat) (a : Option Addr) (c : Nat) (tv : Value) (e : Ex) (w : World) (hk : e.kids = []) (hz : e.meter.size ≤ maxLen ∧ e.tiers.length ≤ maxLen) (ht : TL lo hi w tv e.tiers) (hhi : hi ≤ w.heap.size) (hw : wt e ≤ 1048576) :
    Calls Tryz.prog 86 #[.agg #[.int .i64 e.kind, .int .i64 e.num, .string e.meter, .slice a 0 c, tv]] w fun x w' => ∃ (n dd : Int) (ok : Bool), x = .returned (.tuple #[.int .i64 n, .int .i64 dd, .bool ok]) ∧ SizeOk e n dd ok ∧ Below w.heap.size w w' := by
  have hS : SizeOk e 1 (0 + 1) (nodeE e) := (SizeAt.start e).done (.inr (by rw [hk]; simp))
  have HS := hide hS
  have hnode : nodeE e = nodeB e.kind e.num e.meter 0 e.tiers := by unfold nodeE; rw [hk]; rfl
  have ht2 : e.tiers.length ≤ 1048576 := by rw [wt_eq] at hw; omega
  obtain ⟨ta, tc, rfl⟩ : ∃ a c, tv = .slice a e.tiers.length c := by
    rcases ht with ⟨h, a, c, rfl⟩ | ⟨b, o, cap, rfl, _⟩
    · rw [h]; exact ⟨_, _, rfl⟩
    · exact ⟨_, _, rfl⟩
  have HN := hide (nodeS e.kind e.num e.meter a ta 0 c tc e.tiers (w.alloc (.cells #[.int .i64 e.kind, .int .i64 e.num, .string e.meter, .slice a 0 c, .slice ta e.tiers.length tc] 77)) (by unfold maxLen; omega) hz.1 ht2 (ht.kept (same_below (below_alloc _ _) hhi)).toTR)
  rw [← hnode] at HN
  clear hnode hS ht hz hk
  generalize e.kind = k at *
  generalize e.num = q at *
  generalize e.meter = m at *
  generalize e.tiers.length = tn at *
  generalize nodeE e = nd at *
  go_enter Tryz.func86, Tryz.ntmps86
  go_wp2_with (fail)
  refine (unhide HN).mono ?_
  rintro x w1 ⟨rfl, hb1⟩
  obtain ⟨c0, c1, c2, c3, c4, hB⟩ := box5 _ _ _ _ _ _ _ _ hb1
  have HB := hide hB
  clear hb1 hB HN
  go_wp2_with (fail)
  refine wp_loop_rounds 1 ?_
  rw [rounds_succ]
  go_wp2_with (fail)
  go_ret3
  exact ⟨_, _, _, rfl, unhide HS, unhide HB⟩

set_option maxHeartbeats 1600000 in
theorem sizeE_row {d : Nat} (H : SizeE d) (lo hi b o cap : Nat) (tv : Value) (e : Ex) (w : World) (hl : e.kids.length ≤ maxLen) (k1 : lo ≤ b) (k2 : b < hi)
    (hc : ∀ i, i < e.kids.length → ∃ kv tv, (w.cell? ⟨b, o + i * 5, none⟩ = some (.int .i64 (e.kids.getD i E0).kind) ∧ w.cell? ⟨b, o + i * 5 + 1, none⟩ = some (.int .i64 (e.kids.getD i E0).num) ∧ w.cell? ⟨b, o + i * 5 + 2, none⟩ = some (.string (e.kids.getD i E0).meter) ∧
        w.cell? ⟨b, o + i * 5 + 3, none⟩ = some kv ∧ w.cell? ⟨b, o + i * 5 + 4, none⟩ = some tv) ∧
        ((e.kids.getD i E0).meter.size ≤ maxLen ∧ (e.kids.getD i E0).tiers.length ≤ maxLen) ∧ ES lo hi w d kv (e.kids.getD i E0).kids ∧ TL lo hi w tv (e.kids.getD i E0).tiers)
    (hz : e.meter.size ≤ maxLen ∧ e.tiers.length ≤ maxLen) (ht : TL lo hi w tv e.tiers) (hhi : hi ≤ w.heap.size) (hw : wt e ≤ 1048576) :
    Calls Tryz.prog 86 #[.agg #[.int .i64 e.kind, .int .i64 e.num, .string e.meter, .slice (some ⟨b, o, none⟩) e.kids.length cap, tv]] w fun x w' => ∃ (n dd : Int) (ok : Bool), x = .returned (.tuple #[.int .i64 n, .int .i64 dd, .bool ok]) ∧ SizeOk e n dd ok ∧ Below w.heap.size w w' := by
  have hcw := cnt_wt e
  have hdc := dep_cnt e
  have hww := wt_eq e
  have ht2 : e.tiers.length ≤ 1048576 := by omega
  have hkl := wtL_len e.kids
  have HWK : Hid (∀ k, k < e.kids.length → wt (e.kids.getD k E0) ≤ 1048576) := hide (fun k hk => by have := wt_at hk; omega)
  have HC := hide hc
  have HH := hide H
  have HS0 : Hid (SizeAt e 0 1 0 (nodeE e)) := hide (SizeAt.start e)
  have HST : Hid (∀ (k : Nat) (n dd a b : Int) (c : Bool), SizeAt e k n dd true → k < e.kids.length → SizeOk (e.kids.getD k E0) a b c → SizeAt e (k + 1) (n + a) (if dd < b then b else dd) (c && decide (n + a ≤ 40))) := hide (fun k n dd a b c h hk hs => h.step hk hs)
  have HBD : Hid (∀ (k : Nat) (n dd : Int) (ok : Bool), SizeAt e k n dd ok → 1 ≤ n ∧ n ≤ 1048577 ∧ 0 ≤ dd ∧ dd ≤ 1048577) := hide (fun k n dd ok h => by
    have c1 := cntL_le e.kids k
    have d1 := depL_le e.kids k
    rw [cnt_eq] at hcw hdc
    rw [dep_eq] at hdc
    exact ⟨h.1, by have := h.2.1; omega, h.2.2.1, by have := h.2.2.2.1; omega⟩)
  have HBK : Hid (∀ (k : Nat) (a b : Int) (c : Bool), k < e.kids.length → SizeOk (e.kids.getD k E0) a b c → 1 ≤ a ∧ a ≤ 1048577 ∧ 1 ≤ b ∧ b ≤ 1048577) := hide (fun k a b c hk h => by
    have c1 := cnt_wt (e.kids.getD k E0)
    have d1 := dep_cnt (e.kids.getD k E0)
    have := unhide HWK k hk
    exact ⟨h.1, by have := h.2.1; omega, h.2.2.1, by have := h.2.2.2.1; omega⟩)
  have HDN : Hid (∀ (k : Nat) (n dd : Int) (ok : Bool), SizeAt e k n dd ok → ok = false ∨ e.kids.length ≤ k → SizeOk e n (dd + 1) ok) := hide (fun k n dd ok h hk => h.done hk)
  obtain ⟨ta, tc, rfl⟩ : ∃ a c, tv = .slice a e.tiers.length c := by
    rcases ht with ⟨h, a, c, rfl⟩ | ⟨b, o, cap, rfl, _⟩
    · rw [h]; exact ⟨_, _, rfl⟩
    · exact ⟨_, _, rfl⟩
  have HN := hide (nodeS e.kind e.num e.meter (some ⟨b, o, none⟩) ta e.kids.length cap tc e.tiers (w.alloc (.cells #[.int .i64 e.kind, .int .i64 e.num, .string e.meter, .slice (some ⟨b, o, none⟩) e.kids.length cap, .slice ta e.tiers.length tc] 77)) hl hz.1 ht2 (ht.kept (same_below (below_alloc _ _) hhi)).toTR)
  have hnode : nodeB e.kind e.num e.meter e.kids.length e.tiers = nodeE e := rfl
  rw [hnode] at HN
  have hbw : b < w.heap.size := by omega
  clear hnode ht hz hc H hcw hdc hww
  unfold maxLen at hl
  generalize e.kind = k at *
  generalize e.num = q at *
  generalize e.meter = m at *
  generalize e.tiers.length = tn at *
  generalize nodeE e = nd at *
  go_enter Tryz.func86, Tryz.ntmps86
  go_wp2_with (fail)
  refine (unhide HN).mono ?_
  rintro x w1 ⟨rfl, hb1⟩
  obtain ⟨_, _, _, c3, _, hB⟩ := box5 _ _ _ _ _ _ _ _ hb1
  have hsz : w.heap.size < w1.heap.size := by have := hb1.size; simp at this; omega
  have HB := hide hB
  clear hb1 hB HN
  go_wp2_with (fail)
  go_loopw [5, 6, 7, 8] (fun n d t i wr => ∃ (k : Nat) (nn dd : Int) (ok : Bool), k ≤ e.kids.length ∧ i = .int .i64 k ∧ n = .int .i64 nn ∧ d = .int .i64 dd ∧ t = .bool ok ∧ Hid (SizeAt e k nn dd ok) ∧ Hid (Below w1.heap.size w1 wr)) (fun _ _ _ i _ => e.kids.length - (intOf i).toNat)
  case atStart => exact ⟨0, 1, 0, nd, Nat.zero_le _, rfl, rfl, rfl, rfl, HS0, hide (Below.refl _ _)⟩
  case round =>
    obtain ⟨k, nn, dd, ok, hk, rfl, rfl, rfl, rfl, hS, hb⟩ := hrel
    obtain ⟨n1, n2, d1, d2⟩ := unhide HBD _ _ _ _ (unhide hS)
    have c3' := ((unhide hb).cell (p := ⟨w.heap.size, 3, none⟩) hsz).trans c3
    clear c3
    have HBW : Hid (Below w.heap.size w wr) := hide (below_trans (unhide HB) (unhide hb))
    by_cases hlt : k < e.kids.length
    · cases ok
      · have HD := hide (unhide HDN _ _ _ _ (unhide hS) (.inl rfl))
        go_wp2_with (fail)
        go_ret3
        exact ⟨_, _, _, rfl, unhide HD, unhide HBW⟩
      · obtain ⟨kv, tv, ⟨e0', e1', e2', e3', e4'⟩, hz, hkk, htt⟩ := unhide HC k hlt
        have e0 := ((unhide HBW).cell (p := ⟨b, o + k * 5, none⟩) hbw).trans e0'
        have e1 := ((unhide HBW).cell (p := ⟨b, o + k * 5 + 1, none⟩) hbw).trans e1'
        have e2 := ((unhide HBW).cell (p := ⟨b, o + k * 5 + 2, none⟩) hbw).trans e2'
        have e3 := ((unhide HBW).cell (p := ⟨b, o + k * 5 + 3, none⟩) hbw).trans e3'
        have e4 := ((unhide HBW).cell (p := ⟨b, o + k * 5 + 4, none⟩) hbw).trans e4'
        have HE : Hid (EV lo hi wr d (.agg #[.int .i64 (e.kids.getD k E0).kind, .int .i64 (e.kids.getD k E0).num, .string (e.kids.getD k E0).meter, kv, tv]) (e.kids.getD k E0)) := hide ⟨kv, tv, rfl, hz, hkk.kept (same_below (unhide HBW) hhi), htt.kept (same_below (unhide HBW) hhi)⟩
        have HW' := hide (unhide HWK k hlt)
        have HSK := hide (fun a b c => unhide HST k nn dd a b c (unhide hS) hlt)
        have HBK' := hide (fun a b c => unhide HBK k a b c hlt)
        clear e0' e1' e2' e3' e4' hz hkk htt HST HBK HDN
        generalize e.kids.getD k E0 = f at *
        generalize f.kind = fk at *
        generalize f.num = fn at *
        generalize f.meter = fm at *
        go_wp2_with (fail)
        refine (unhide HH lo hi _ f wr (unhide HE) (Nat.le_trans hhi (unhide HBW).size) (unhide HW')).mono ?_
        rintro x w2 ⟨a, b', c, rfl, hs, hb2⟩
        obtain ⟨a1, a2, b1, b2⟩ := unhide HBK' a b' c hs
        have HS2 := hide (unhide HSK a b' c hs)
        have HB2 : Hid (Below w1.heap.size w1 w2) := hide (below_trans (unhide hb) hb2)
        clear hs hb2 hb HSK HBK' HE hS e0 e1 e2 e3 e4 c3'
        by_cases hdb : dd < b'
        · rw [if_pos hdb] at HS2
          cases c
          · go_wp2_with (fail)
            exact ⟨⟨k + 1, nn + a, b', false, by omega, by go_num, rfl, rfl, rfl, HS2, HB2⟩, by simp [intOf]; omega⟩
          · by_cases h40 : nn + a ≤ 40
            · have h40' : decide (nn + a ≤ 40) = true := decide_eq_true h40
              rw [h40'] at HS2
              go_wp2_with (fail)
              exact ⟨⟨k + 1, nn + a, b', true, by omega, by go_num, rfl, rfl, rfl, HS2, HB2⟩, by simp [intOf]; omega⟩
            · have h40' : decide (nn + a ≤ 40) = false := decide_eq_false h40
              rw [h40'] at HS2
              go_wp2_with (fail)
              exact ⟨⟨k + 1, nn + a, b', false, by omega, by go_num, rfl, rfl, rfl, HS2, HB2⟩, by simp [intOf]; omega⟩
        · rw [if_neg hdb] at HS2
          cases c
          · go_wp2_with (fail)
            exact ⟨⟨k + 1, nn + a, dd, false, by omega, by go_num, rfl, rfl, rfl, HS2, HB2⟩, by simp [intOf]; omega⟩
          · by_cases h40 : nn + a ≤ 40
            · have h40' : decide (nn + a ≤ 40) = true := decide_eq_true h40
              rw [h40'] at HS2
              go_wp2_with (fail)
              exact ⟨⟨k + 1, nn + a, dd, true, by omega, by go_num, rfl, rfl, rfl, HS2, HB2⟩, by simp [intOf]; omega⟩
            · have h40' : decide (nn + a ≤ 40) = false := decide_eq_false h40
              rw [h40'] at HS2
              go_wp2_with (fail)
              exact ⟨⟨k + 1, nn + a, dd, false, by omega, by go_num, rfl, rfl, rfl, HS2, HB2⟩, by simp [intOf]; omega⟩
    · have HD := hide (unhide HDN _ _ _ _ (unhide hS) (.inr (by omega)))
      go_wp2_with (fail)
      go_ret3
      exact ⟨_, _, _, rfl, unhide HD, unhide HBW⟩

theorem sizeE_all : ∀ d, SizeE d
  | 0 => by
    rintro lo hi v e w ⟨kv, tv, rfl, hz, ⟨hk, a, c, rfl⟩, ht⟩ hhi hw
    exact sizeE_nil lo hi a c tv e w hk hz ht hhi hw
  | d + 1 => by
    rintro lo hi v e w ⟨kv, tv, rfl, hz, hk, ht⟩ hhi hw
    rcases hk with ⟨hk, a, c, rfl⟩ | ⟨b, o, cap, rfl, hl, k1, k2, hc⟩
    · exact sizeE_nil lo hi a c tv e w hk hz ht hhi hw
    · exact sizeE_row (sizeE_all d) lo hi b o cap tv e w hl k1 k2 hc hz ht hhi hw

theorem okE_of {e : Ex} {n dd : Int} {ok : Bool} (h : SizeOk e n dd ok) : okE e = (ok && decide (n ≤ 40) && decide (dd ≤ 8)) := by
  obtain ⟨_, _, _, _, h5, h6⟩ := h
  unfold okE
  cases ok
  · rcases h6 rfl with h | h
    · rw [h]; rfl
    · rw [decide_eq_false (by omega)]; simp
  · obtain ⟨e1, e2, e3⟩ := h5 rfl
    rw [e3, e1, e2]
    congr 1
    · congr 1
      rw [Bool.eq_iff_iff]; simp; omega
    · rw [Bool.eq_iff_iff]; simp; omega

/-- spec.RuleOk -/
theorem okS (d lo hi : Nat) (v : Value) (e : Ex) (w : World) (h : EV lo hi w d v e) (hhi : hi ≤ w.heap.size) (hw : wt e ≤ 1048576) :
    Calls Tryz.prog 53 #[v] w fun x w' => x = .returned (.bool (okE e)) ∧ Below w.heap.size w w' := by
  obtain ⟨kv, tv, rfl, hz, hk, ht⟩ := h
  have HE : Hid (EV lo hi (w.alloc (.cells #[.int .i64 e.kind, .int .i64 e.num, .string e.meter, kv, tv] 77)) d (.agg #[.int .i64 e.kind, .int .i64 e.num, .string e.meter, kv, tv]) e) := hide ⟨kv, tv, rfl, hz, hk.kept (same_below (below_alloc _ _) hhi), ht.kept (same_below (below_alloc _ _) hhi)⟩
  have HO : Hid (∀ n dd ok, SizeOk e n dd ok → okE e = (ok && decide (n ≤ 40) && decide (dd ≤ 8))) := hide (fun n dd ok h => okE_of h)
  clear hz hk ht
  generalize okE e = r at *
  generalize e.kind = ek at *
  generalize e.num = en at *
  generalize e.meter = em at *
  go_enter Tryz.func53, Tryz.ntmps53
  go_wp2_with (fail)
  refine (sizeE_all d lo hi _ e _ (unhide HE) (by simp; omega) hw).mono ?_
  rintro x w1 ⟨n, dd, ok, rfl, hs, hb1⟩
  have hr := unhide HO n dd ok hs
  have HB := hide ((below_alloc w (.cells #[.int .i64 ek, .int .i64 en, .string em, kv, tv] 77)).trans (hb1.mono (by simp)))
  clear hb1 HO hs HE
  cases ok
  · simp only [Bool.false_and] at hr
    subst hr
    go_wp2_with (fail)
    go_ret
    exact ⟨rfl, unhide HB⟩
  · by_cases h40 : n ≤ 40
    · by_cases h8 : dd ≤ 8
      · rw [decide_eq_true h40, decide_eq_true h8] at hr
        simp only [Bool.true_and] at hr
        subst hr
        go_wp2_with (fail)
        go_ret
        exact ⟨rfl, unhide HB⟩
      · rw [decide_eq_true h40, decide_eq_false h8] at hr
        simp only [Bool.and_false] at hr
        subst hr
        have h8' : decide (dd ≤ 8) = false := decide_eq_false h8
        go_wp2_with (fail)
        go_ret
        exact ⟨rfl, unhide HB⟩
    · rw [decide_eq_false h40] at hr
      simp only [Bool.and_false, Bool.false_and] at hr
      subst hr
      have h40' : decide (n ≤ 40) = false := decide_eq_false h40
      go_wp2_with (fail)
      go_ret
      exact ⟨rfl, unhide HB⟩
end Go.Proofs.YtnchgeiinkaefaaGreatDoor.Rule
end

section
/-
  The methods 'fits' of the kinds.
-/
namespace Go.Proofs.YtnchgeiinkaefaaGreatDoor.Rule
set_option linter.unusedVariables false
open Go.RowKit Tiers
open Kinds hiding hide unhide below_trans ext_toList

theorem zero_yes {n : Nat} (h : n = 0) : ((n : Int) == 0) = true := by simp [h]
theorem zero_no {n : Nat} (h : ¬ n = 0) : ((n : Int) == 0) = false := by simp [h]
theorem below2 (w : World) (o p : Obj) : Below w.heap.size w ((w.alloc o).alloc p) := ((Below.refl _ _).alloc (Nat.le_refl _) _).alloc (by simp) _

set_option maxHeartbeats 1000000 in
theorem fitsLook (s : ByteArray) (q k n : Int) (m : ByteArray) (ka ta : Option Addr) (nk kc tn tc : Nat) (w : World) (h2 : tn ≤ maxLen) :
    Calls Tryz.prog 261 #[.agg #[.string s, .int .i64 q], .agg #[.int .i64 k, .int .i64 n, .string m, .slice ka nk kc, .slice ta tn tc]] w fun e w' => e = .returned (.bool (decide (n = 0) && decide (m.size = 0) && decide (tn = 0))) ∧ Below w.heap.size w w' := by
  unfold maxLen at h2
  by_cases n0 : n = 0
  · have b1 : (n == 0) = true := by simp [n0]
    by_cases m0 : m.size = 0
    · have b2 := isEmpty_yes m0
      by_cases t0 : tn = 0
      · have b3 := zero_yes t0
        have e : (decide (n = 0) && decide (m.size = 0) && decide (tn = 0)) = true := by simp [n0, m0, t0]
        rw [e]
        clear e
        go_enter Tryz.func261, Tryz.ntmps261
        go_wp2
        go_ret
        exact ⟨rfl, below2 _ _ _⟩
      · have b3 := zero_no t0
        have e : (decide (n = 0) && decide (m.size = 0) && decide (tn = 0)) = false := by simp [n0, m0, t0]
        rw [e]
        clear e
        go_enter Tryz.func261, Tryz.ntmps261
        go_wp2
        go_ret
        exact ⟨rfl, below2 _ _ _⟩
    · have b2 := isEmpty_no m0
      have e : (decide (n = 0) && decide (m.size = 0) && decide (tn = 0)) = false := by simp [n0, m0]
      rw [e]
      clear e
      go_enter Tryz.func261, Tryz.ntmps261
      go_wp2
      go_ret
      exact ⟨rfl, below2 _ _ _⟩
  · have b1 : (n == 0) = false := by simp [n0]
    have e : (decide (n = 0) && decide (m.size = 0) && decide (tn = 0)) = false := by simp [n0]
    rw [e]
    clear e
    go_enter Tryz.func261, Tryz.ntmps261
    go_wp2
    go_ret
    exact ⟨rfl, below2 _ _ _⟩

set_option maxHeartbeats 1000000 in
theorem fitsNum (s : ByteArray) (q k n : Int) (m : ByteArray) (ka ta : Option Addr) (nk kc tn tc : Nat) (w : World) (h2 : tn ≤ maxLen) :
    Calls Tryz.prog 265 #[.agg #[.string s, .int .i64 q], .agg #[.int .i64 k, .int .i64 n, .string m, .slice ka nk kc, .slice ta tn tc]] w fun e w' => e = .returned (.bool (decide (-1000000000 ≤ n ∧ n ≤ 1000000000) && decide (m.size = 0) && decide (tn = 0))) ∧ Below w.heap.size w w' := by
  unfold maxLen at h2
  by_cases r1 : -1000000000 ≤ n
  · have r1' : decide (-1000000000 ≤ n) = true := decide_eq_true r1
    by_cases r2 : n ≤ 1000000000
    · have r2' : decide (n ≤ 1000000000) = true := decide_eq_true r2
      by_cases m0 : m.size = 0
      · have b2 := isEmpty_yes m0
        by_cases t0 : tn = 0
        · have b3 := zero_yes t0
          have e : (decide (-1000000000 ≤ n ∧ n ≤ 1000000000) && decide (m.size = 0) && decide (tn = 0)) = true := by simp [r1, r2, m0, t0]
          rw [e]
          clear e
          go_enter Tryz.func265, Tryz.ntmps265
          go_wp2
          go_ret
          exact ⟨rfl, below2 _ _ _⟩
        · have b3 := zero_no t0
          have e : (decide (-1000000000 ≤ n ∧ n ≤ 1000000000) && decide (m.size = 0) && decide (tn = 0)) = false := by simp [r1, r2, m0, t0]
          rw [e]
          clear e
          go_enter Tryz.func265, Tryz.ntmps265
          go_wp2
          go_ret
          exact ⟨rfl, below2 _ _ _⟩
      · have b2 := isEmpty_no m0
        have e : (decide (-1000000000 ≤ n ∧ n ≤ 1000000000) && decide (m.size = 0) && decide (tn = 0)) = false := by simp [r1, r2, m0]
        rw [e]
        clear e
        go_enter Tryz.func265, Tryz.ntmps265
        go_wp2
        go_ret
        exact ⟨rfl, below2 _ _ _⟩
    · have r2' : decide (n ≤ 1000000000) = false := decide_eq_false r2
      have e : (decide (-1000000000 ≤ n ∧ n ≤ 1000000000) && decide (m.size = 0) && decide (tn = 0)) = false := by simp [r1, r2]
      rw [e]
      clear e
      go_enter Tryz.func265, Tryz.ntmps265
      go_wp2
      go_ret
      exact ⟨rfl, below2 _ _ _⟩
  · have r1' : decide (-1000000000 ≤ n) = false := decide_eq_false r1
    have e : (decide (-1000000000 ≤ n ∧ n ≤ 1000000000) && decide (m.size = 0) && decide (tn = 0)) = false := by simp [r1]
    rw [e]
    clear e
    go_enter Tryz.func265, Tryz.ntmps265
    go_wp2
    go_ret
    exact ⟨rfl, below2 _ _ _⟩

set_option maxHeartbeats 1000000 in
theorem fitsPart (s : ByteArray) (q k n : Int) (m : ByteArray) (ka ta : Option Addr) (nk kc tn tc : Nat) (w : World) (h2 : tn ≤ maxLen) :
    Calls Tryz.prog 273 #[.agg #[.string s, .int .i64 q], .agg #[.int .i64 k, .int .i64 n, .string m, .slice ka nk kc, .slice ta tn tc]] w fun e w' => e = .returned (.bool (decide (0 ≤ n ∧ n ≤ 1000000) && decide (m.size = 0) && decide (tn = 0))) ∧ Below w.heap.size w w' := by
  unfold maxLen at h2
  by_cases r1 : 0 ≤ n
  · have r1' : decide (0 ≤ n) = true := decide_eq_true r1
    by_cases r2 : n ≤ 1000000
    · have r2' : decide (n ≤ 1000000) = true := decide_eq_true r2
      by_cases m0 : m.size = 0
      · have b2 := isEmpty_yes m0
        by_cases t0 : tn = 0
        · have b3 := zero_yes t0
          have e : (decide (0 ≤ n ∧ n ≤ 1000000) && decide (m.size = 0) && decide (tn = 0)) = true := by simp [r1, r2, m0, t0]
          rw [e]
          clear e
          go_enter Tryz.func273, Tryz.ntmps273
          go_wp2
          go_ret
          exact ⟨rfl, below2 _ _ _⟩
        · have b3 := zero_no t0
          have e : (decide (0 ≤ n ∧ n ≤ 1000000) && decide (m.size = 0) && decide (tn = 0)) = false := by simp [r1, r2, m0, t0]
          rw [e]
          clear e
          go_enter Tryz.func273, Tryz.ntmps273
          go_wp2
          go_ret
          exact ⟨rfl, below2 _ _ _⟩
      · have b2 := isEmpty_no m0
        have e : (decide (0 ≤ n ∧ n ≤ 1000000) && decide (m.size = 0) && decide (tn = 0)) = false := by simp [r1, r2, m0]
        rw [e]
        clear e
        go_enter Tryz.func273, Tryz.ntmps273
        go_wp2
        go_ret
        exact ⟨rfl, below2 _ _ _⟩
    · have r2' : decide (n ≤ 1000000) = false := decide_eq_false r2
      have e : (decide (0 ≤ n ∧ n ≤ 1000000) && decide (m.size = 0) && decide (tn = 0)) = false := by simp [r1, r2]
      rw [e]
      clear e
      go_enter Tryz.func273, Tryz.ntmps273
      go_wp2
      go_ret
      exact ⟨rfl, below2 _ _ _⟩
  · have r1' : decide (0 ≤ n) = false := decide_eq_false r1
    have e : (decide (0 ≤ n ∧ n ≤ 1000000) && decide (m.size = 0) && decide (tn = 0)) = false := by simp [r1]
    rw [e]
    clear e
    go_enter Tryz.func273, Tryz.ntmps273
    go_wp2
    go_ret
    exact ⟨rfl, below2 _ _ _⟩

set_option maxHeartbeats 1000000 in
theorem fitsMeter (s : ByteArray) (q k n : Int) (m : ByteArray) (ka ta : Option Addr) (nk kc tc : Nat) (ts : List T) (w : World) (z1 : m.size ≤ maxLen) (z2 : ts.length ≤ maxLen) :
    Calls Tryz.prog 268 #[.agg #[.string s, .int .i64 q], .agg #[.int .i64 k, .int .i64 n, .string m, .slice ka nk kc, .slice ta ts.length tc]] w fun e w' => e = .returned (.bool (nameB m && decide (n = 0) && decide (ts.length = 0))) ∧ Below w.heap.size w w' := by
  unfold maxLen at z2
  generalize hr : (nameB m && decide (n = 0) && decide (ts.length = 0)) = r
  have HR := hide hr
  clear hr
  go_enter Tryz.func268, Tryz.ntmps268
  go_wp2_with (fail)
  refine (nameI m _ z1).mono ?_
  rintro e w1 ⟨rfl, hb1⟩
  have hc := (hb1.cell (p := ⟨w.heap.size + 1, 1, none⟩) (by simp))
  have hd := (hb1.cell (p := ⟨w.heap.size + 1, 2, none⟩) (by simp))
  have he := (hb1.cell (p := ⟨w.heap.size + 1, 4, none⟩) (by simp))
  have n5 := new5 (w.alloc (.cells #[.string s, .int .i64 q] 222)) (.int .i64 k) (.int .i64 n) (.string m) (.slice ka nk kc) (.slice ta ts.length tc) 77
  simp only [World.size_alloc] at n5
  rw [n5.2.1] at hc
  rw [n5.2.2.1] at hd
  rw [n5.2.2.2.2] at he
  have HB := hide ((below2 _ _ _).trans (hb1.mono (by simp; omega)))
  clear hb1 n5
  cases hkey : nameB m
  · simp only [hkey, Bool.false_and] at HR
    have := unhide HR; subst this
    go_wp2_with (fail)
    go_ret
    exact ⟨rfl, unhide HB⟩
  · simp only [hkey, Bool.true_and] at HR
    by_cases n0 : n = 0
    · have b1 : (n == 0) = true := by simp [n0]
      by_cases t0 : ts.length = 0
      · have b3 := zero_yes t0
        have hr : r = true := (unhide HR).symm.trans (by simp [n0, t0])
        subst hr
        go_wp2_with (fail)
        go_ret
        exact ⟨rfl, unhide HB⟩
      · have b3 := zero_no t0
        have hr : r = false := (unhide HR).symm.trans (by simp [t0])
        subst hr
        go_wp2_with (fail)
        go_ret
        exact ⟨rfl, unhide HB⟩
    · have b1 : (n == 0) = false := by simp [n0]
      have hr : r = false := (unhide HR).symm.trans (by simp [n0])
      subst hr
      go_wp2_with (fail)
      go_ret
      exact ⟨rfl, unhide HB⟩

set_option maxHeartbeats 1000000 in
theorem fitsSteps (s : ByteArray) (q k n : Int) (m : ByteArray) (ka ta : Option Addr) (nk kc tc : Nat) (ts : List T) (w : World) (z2 : ts.length ≤ 1048576) (hT : TR w (.slice ta ts.length tc) ts) :
    Calls Tryz.prog 278 #[.agg #[.string s, .int .i64 q], .agg #[.int .i64 k, .int .i64 n, .string m, .slice ka nk kc, .slice ta ts.length tc]] w fun e w' => e = .returned (.bool (rightB ts && decide (n = 0) && decide (m.size = 0))) ∧ Below w.heap.size w w' := by
  have HT := hide hT
  clear hT
  generalize hr : (rightB ts && decide (n = 0) && decide (m.size = 0)) = r
  have HR := hide hr
  clear hr
  go_enter Tryz.func278, Tryz.ntmps278
  go_wp2_with (fail)
  refine (rightI _ ts _ ((unhide HT).kept (below2 _ _ _)) z2).mono ?_
  rintro e w1 ⟨rfl, hb1⟩
  have hc := (hb1.cell (p := ⟨w.heap.size + 1, 1, none⟩) (by simp))
  have hd := (hb1.cell (p := ⟨w.heap.size + 1, 2, none⟩) (by simp))
  have he := (hb1.cell (p := ⟨w.heap.size + 1, 4, none⟩) (by simp))
  have n5 := new5 (w.alloc (.cells #[.string s, .int .i64 q] 227)) (.int .i64 k) (.int .i64 n) (.string m) (.slice ka nk kc) (.slice ta ts.length tc) 77
  simp only [World.size_alloc] at n5
  rw [n5.2.1] at hc
  rw [n5.2.2.1] at hd
  rw [n5.2.2.2.2] at he
  have HB := hide ((below2 _ _ _).trans (hb1.mono (by simp; omega)))
  clear hb1 n5
  cases hkey : rightB ts
  · simp only [hkey, Bool.false_and] at HR
    have := unhide HR; subst this
    go_wp2_with (fail)
    go_ret
    exact ⟨rfl, unhide HB⟩
  · simp only [hkey, Bool.true_and] at HR
    by_cases n0 : n = 0
    · have b1 : (n == 0) = true := by simp [n0]
      by_cases m0 : m.size = 0
      · have b2 := isEmpty_yes m0
        have hr : r = true := (unhide HR).symm.trans (by simp [n0, m0])
        subst hr
        go_wp2_with (fail)
        go_ret
        exact ⟨rfl, unhide HB⟩
      · have b2 := isEmpty_no m0
        have hr : r = false := (unhide HR).symm.trans (by simp [m0])
        subst hr
        go_wp2_with (fail)
        go_ret
        exact ⟨rfl, unhide HB⟩
    · have b1 : (n == 0) = false := by simp [n0]
      have hr : r = false := (unhide HR).symm.trans (by simp [n0])
      subst hr
      go_wp2_with (fail)
      go_ret
      exact ⟨rfl, unhide HB⟩
end Go.Proofs.YtnchgeiinkaefaaGreatDoor.Rule
end
