/-
  The laws' own helpers on slices of uses: markRuleUseS, heldRuleUseS.
-/
import Derived.Test.YtdjjgoeinkbmjaaMark
import Derived.Test.YtdjjgoeinkbmjaaSumN
namespace Go.Proofs.Ytdjjgoeinkbmjaa.Sums
set_option linter.unusedVariables false
open Go.RowKit RegIn
open Uses (U U0 UOwn UC UR)
open Evs (hide unhide mt markT grow0 growB growT growS below_trans below_drewN')

theorem UOwn.setA {W : World} {b : Nat} {l : List U} (h : UOwn W b l) {k : Nat} (hk : k < l.length) (s : ByteArray) :
    UOwn (W.setCell ⟨b, k * 2, none⟩ (.string s)) b (l.set k (s, (l.getD k U0).2)) := by
  refine ⟨⟨by simpa using h.1.1, fun i hi => ?_⟩, fun j => by simpa [World.frozen?_setCell] using h.2 j⟩
  have hi' : i < l.length := by simpa using hi
  obtain ⟨c0, c1⟩ := h.1.2 i hi'
  rw [Nat.zero_add] at c0 c1 ⊢
  have d1 : (⟨b, k * 2, none⟩ : Addr) ≠ ⟨b, i * 2 + 1, none⟩ := fun he => by simp only [Addr.mk.injEq, and_true, true_and] at he; omega
  by_cases e : i = k
  · subst e
    rw [List.getD_eq_getElem?_getD, List.getElem?_set_self hi']
    exact ⟨World.cell?_setCell_same _ _ _ c0, by rw [World.cell?_setCell_other _ _ _ _ d1]; exact c1⟩
  · have d0 : (⟨b, k * 2, none⟩ : Addr) ≠ ⟨b, i * 2, none⟩ := fun he => by simp only [Addr.mk.injEq, and_true, true_and] at he; omega
    rw [World.cell?_setCell_other _ _ _ _ d0, World.cell?_setCell_other _ _ _ _ d1, c0, c1, List.getD_eq_getElem?_getD, List.getD_eq_getElem?_getD, List.getElem?_set_ne (by omega)]
    exact ⟨rfl, rfl⟩
theorem UOwn.setQ {W : World} {b : Nat} {l : List U} (h : UOwn W b l) {k : Nat} (hk : k < l.length) (q : Int) :
    UOwn (W.setCell ⟨b, k * 2 + 1, none⟩ (.int .i64 q)) b (l.set k ((l.getD k U0).1, q)) := by
  refine ⟨⟨by simpa using h.1.1, fun i hi => ?_⟩, fun j => by simpa [World.frozen?_setCell] using h.2 j⟩
  have hi' : i < l.length := by simpa using hi
  obtain ⟨c0, c1⟩ := h.1.2 i hi'
  rw [Nat.zero_add] at c0 c1 ⊢
  have d0 : (⟨b, k * 2 + 1, none⟩ : Addr) ≠ ⟨b, i * 2, none⟩ := fun he => by simp only [Addr.mk.injEq, and_true, true_and] at he; omega
  by_cases e : i = k
  · subst e
    rw [List.getD_eq_getElem?_getD, List.getElem?_set_self hi']
    exact ⟨by rw [World.cell?_setCell_other _ _ _ _ d0]; exact c0, World.cell?_setCell_same _ _ _ c1⟩
  · have d1 : (⟨b, k * 2 + 1, none⟩ : Addr) ≠ ⟨b, i * 2 + 1, none⟩ := fun he => by simp only [Addr.mk.injEq, and_true, true_and] at he; omega
    rw [World.cell?_setCell_other _ _ _ _ d0, World.cell?_setCell_other _ _ _ _ d1, c0, c1, List.getD_eq_getElem?_getD, List.getD_eq_getElem?_getD, List.getElem?_set_ne (by omega)]
    exact ⟨rfl, rfl⟩

/-- the marks of a row -/
def marksU (k n : Nat) : List U := (List.range n).map fun i => (mt (k + 2 * i), ((k + 2 * i + 1 : Nat) : Int))
theorem marksU_len (k n : Nat) : (marksU k n).length = n := by simp [marksU]
theorem marksU_step (k : Nat) (l : List U) (j : Nat) (h : j < l.length) : (marksU k j ++ l.drop j).set j (mt (k + 2 * j), ((k + 2 * j + 1 : Nat) : Int)) = marksU k (j + 1) ++ l.drop (j + 1) := by
  rw [List.set_append_right _ _ (by rw [marksU_len]; exact Nat.le_refl _), marksU_len, Nat.sub_self, List.drop_eq_getElem_cons h, List.set_cons_zero]
  have e : marksU k (j + 1) = marksU k j ++ [(mt (k + 2 * j), ((k + 2 * j + 1 : Nat) : Int))] := by
    unfold marksU
    rw [List.range_succ, List.map_append]
    rfl
  rw [e, List.append_assoc]
  rfl
theorem getD_setU {L : List U} {j : Nat} (h : j < L.length) (y : U) : (L.set j y).getD j U0 = y := by simp [List.getD, h]

set_option maxHeartbeats 1000000 in
/-- markRuleUseS -/
theorem markUses (B : Nat) (v : Value) (l : List U) (k : Nat) (w : World) (h : UN B w v l) (hl : l.length ≤ 1048576) (h0 : 1 ≤ k) (h1 : k ≤ 1000000) :
    Calls Try.prog 37 #[v, .int .i64 (k : Int)] w fun e w' => e = .returned (.int .i64 ((k + 2 * l.length : Nat) : Int)) ∧ UN B w' v (marksU k l.length) ∧ ∃ r, w.grownBy w' r ∧ ∀ b, r = some b → v.ownBlock = some b ∧ l ≠ [] ∧ B ≤ b := by
  rcases h with ⟨rfl, a, c, rfl⟩ | ⟨b, cap, rfl, hB, hO⟩
  · go_enter Try.func37, Try.ntmps37
    go_wp2
    refine wp_loop_rounds 1 ?_
    rw [rounds_succ]
    go_wp2
    go_ret
    exact ⟨by simp, .inl ⟨rfl, _, _, rfl⟩, none, grow0 _ _, fun b hb => by simp at hb⟩
  · by_cases hne : l = []
    · subst hne
      clear hO
      go_enter Try.func37, Try.ntmps37
      go_wp2
      refine wp_loop_rounds 1 ?_
      rw [rounds_succ]
      go_wp2
      go_ret
      exact ⟨by simp, .inl ⟨rfl, _, _, rfl⟩, none, grow0 _ _, fun b hb => by simp at hb⟩
    have HO := hide hO
    clear hO
    go_enter Try.func37, Try.ntmps37
    go_wp2
    go_loopw [1, 5] (fun t i wr => ∃ j : Nat, j ≤ l.length ∧ i = .int .i64 j ∧ t = .int .i64 ((k + 2 * j : Nat) : Int) ∧ Hid (UOwn wr b (marksU k j ++ l.drop j)) ∧ Hid (w.grownBy wr (some b))) (fun _ i _ => l.length - (intOf i).toNat)
    case atStart => exact ⟨0, Nat.zero_le _, rfl, by simp, by show UOwn _ _ _; simpa [marksU] using unhide HO, hide (grow0 _ _)⟩
    case round =>
      obtain ⟨j, hj, rfl, rfl, hd, hg⟩ := hrel
      by_cases hlt : j < l.length
      · have hj2 : j < (marksU k j ++ l.drop j).length := by rw [List.length_append, marksU_len, List.length_drop]; omega
        have HS := hide (marksU_step k l j hlt)
        generalize marksU k j ++ l.drop j = L at *
        have i1 : (0 : Int) ≤ (j : Int) := by omega
        have i2 : (j : Int) < (l.length : Int) := by omega
        go_wp2_with (fail)
        refine (markT (k + 2 * j) wr (by omega) (by omega)).mono ?_
        rintro e w1 ⟨rfl, hb1⟩
        have ho1 := (unhide hd).kept hb1
        obtain ⟨c0, _⟩ := ho1.1.2 j hj2
        have f0 := ho1.2 (j * 2)
        rw [Nat.zero_add] at c0
        have ho2 := UOwn.setA ho1 hj2 (mt (k + 2 * j))
        generalize hy0 : L.getD j U0 = y0 at *
        have hj3 : j < (L.set j (mt (k + 2 * j), y0.2)).length := by simpa using hj2
        obtain ⟨_, c1⟩ := ho2.1.2 j hj3
        have f1 := ho2.2 (j * 2 + 1)
        rw [Nat.zero_add] at c1
        have ho5 := UOwn.setQ ho2 hj3 ((k + 2 * j + 1 : Nat) : Int)
        rw [getD_setU hj2, List.set_set] at ho5
        have O5 := hide ho5
        have G4 := hide (growT (unhide hg) (growT (growB hb1 (some b)) (growS w1 b (j * 2) (.string (mt (k + 2 * j))))))
        have G5 := hide (growT (unhide G4) (growS _ b (j * 2 + 1) (.int .i64 ((k + 2 * j + 1 : Nat) : Int))))
        have e1 : ((k + 2 * j : Nat) : Int) + 1 = ((k + 2 * j + 1 : Nat) : Int) := by omega
        clear ho1 ho2 ho5 hb1 hd hg G4 hj3
        generalize mt (k + 2 * j) = m1 at *
        rw [unhide HS] at O5
        go_wp2
        exact ⟨⟨j + 1, by omega, by go_num, by congr 1, O5, G5⟩, by simp [intOf]; omega⟩
      · obtain rfl : j = l.length := by omega
        go_wp2
        go_ret
        refine ⟨rfl, .inr ⟨b, cap, by rw [marksU_len], ⟨hB.1, by rw [marksU_len]; exact hB.2⟩, ?_⟩, some b, unhide hg, fun b' hb' => by cases hb'; exact ⟨rfl, hne, hB.1⟩⟩
        have := unhide hd
        simpa using this

theorem marksU_at {k n j : Nat} (h : j < n) : (marksU k n).getD j U0 = (mt (k + 2 * j), ((k + 2 * j + 1 : Nat) : Int)) := by simp [marksU, List.getD, h]

set_option maxHeartbeats 1000000 in
/-- heldRuleUseS, of a row that holds its marks -/
theorem heldUses (v : Value) (n k : Nat) (w : World) (h : UR w v (marksU k n)) (hl : n ≤ 1048576) (h0 : 1 ≤ k) (h1 : k ≤ 1000000) :
    Calls Try.prog 38 #[v, .int .i64 (k : Int)] w fun e w' => e = .returned (.int .i64 ((k + 2 * n : Nat) : Int)) ∧ Below w.heap.size w w' := by
  rcases h with ⟨hn, a, c, rfl⟩ | ⟨b, o, cap, rfl, hc⟩
  · have : n = 0 := by have := congrArg List.length hn; rw [marksU_len] at this; exact this
    subst this
    clear hn
    go_enter Try.func38, Try.ntmps38
    go_wp2
    refine wp_loop_rounds 1 ?_
    rw [rounds_succ]
    go_wp2
    go_ret
    exact ⟨by simp, Below.refl _ _⟩
  · rw [marksU_len]
    have HC := hide hc
    have hbs := hc.1
    clear hc
    go_enter Try.func38, Try.ntmps38
    go_wp2
    go_loopw [1, 5] (fun t i wr => ∃ j : Nat, j ≤ n ∧ i = .int .i64 j ∧ t = .int .i64 ((k + 2 * j : Nat) : Int) ∧ Hid (Below w.heap.size w wr)) (fun _ i _ => n - (intOf i).toNat)
    case atStart => exact ⟨0, Nat.zero_le _, rfl, by simp, hide (Below.refl _ _)⟩
    case round =>
      obtain ⟨j, hj, rfl, rfl, hb⟩ := hrel
      by_cases hlt : j < n
      · have HCW : Hid (∀ w2 : World, Below w.heap.size w w2 → w2.cell? ⟨b, o + j * 2, none⟩ = some (.string (mt (k + 2 * j))) ∧ w2.cell? ⟨b, o + j * 2 + 1, none⟩ = some (.int .i64 ((k + 2 * j + 1 : Nat) : Int))) := hide (fun w2 h2 => by
          have := ((unhide HC).kept h2).2 j (by rw [marksU_len]; exact hlt)
          rw [marksU_at hlt] at this
          exact this)
        have g0 : ∀ g : In (Below w.heap.size w), g.x.cell? ⟨b, o + j * 2, none⟩ = some (.string (mt (k + 2 * j))) := fun g => (unhide HCW g.x g.h).1
        have HC1 : Hid (∀ g : In (Below w.heap.size w), Calls Try.prog 69 #[.int .i64 ((k + 2 * j : Nat) : Int)] g.x fun x w' => x = .returned (.string (mt (k + 2 * j))) ∧ Below w.heap.size w w') := hide (fun g => (markT (k + 2 * j) g.x (by omega) (by omega)).mono (fun x w' ⟨hx, h2⟩ => ⟨hx, below_trans g.h h2⟩))
        have i1 : (0 : Int) ≤ (j : Int) := by omega
        have i2 : (j : Int) < (n : Int) := by omega
        have q1 : (!(mt (k + 2 * j)).toList == (mt (k + 2 * j)).toList) = false := by simp
        generalize mt (k + 2 * j) = m1 at *
        have e1 : ((k + 2 * j : Nat) : Int) + 1 = ((k + 2 * j + 1 : Nat) : Int) := by omega
        go_wp2
        refine wp_region_in (Below w.heap.size w) (by kernel_rfl) (by kernel_rfl) (below_drewN' (unhide hb) 1) ?_
        intro hne
        repeat (go_big_quiet_step (exact call_in _ (unhide HC1 _)))
        refine wpQuiet_nil ?_
        rintro _ ⟨g, rfl⟩
        have B1 := hide g.h
        have c1 := (unhide HCW g.x g.h).2
        clear hb
        have q3 : (((k + 2 * j + 1 : Nat) : Int) != ((k + 2 * j + 1 : Nat) : Int)) = false := by simp
        go_wp2
        exact ⟨⟨j + 1, by omega, by go_num, by congr 1, B1⟩, by simp [intOf]; omega⟩
      · obtain rfl : j = n := by omega
        go_wp2
        go_ret
        exact ⟨rfl, unhide hb⟩
end Go.Proofs.Ytdjjgoeinkbmjaa.Sums
