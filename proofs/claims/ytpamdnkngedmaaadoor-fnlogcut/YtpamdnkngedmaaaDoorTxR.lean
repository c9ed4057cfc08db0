/-
  Slices of texts in memory, and the laws' own helpers on them: szStringS, toStringS, eqStringS.
-/
import Derived.Test.YtpamdnkngedmaaaDoorProg
import Derived.WalkKit
import Derived.WalkLawsBesides
import Derived.Below
import Derived.WalkMore
import Derived.Outline
import Derived.Deep.QuietTactic
import Derived.BigQuiet
import Derived.Deep.OwnRows
import Derived.Lib.Strings
namespace Go.Proofs.YtpamdnkngedmaaaDoor.Txt
set_option linter.unusedVariables false
open Go.RowKit

theorem hide {p : Prop} (h : p) : Hid p := h
theorem unhide {p : Prop} (h : Hid p) : p := h
theorem below_trans {w w1 w2 : World} (h : Below w.heap.size w w1) (k : Below w1.heap.size w1 w2) : Below w.heap.size w w2 := h.trans (k.mono h.size)
abbrev S0 : ByteArray := ByteArray.empty

/-- from o on block b holds the texts l -/
def TC (W : World) (b o : Nat) (l : List ByteArray) : Prop := b < W.heap.size ∧ ∀ i, i < l.length → W.cell? ⟨b, o + i, none⟩ = some (.string (l.getD i S0))
theorem TC.kept {W W' : World} {b o : Nat} {l : List ByteArray} (h : TC W b o l) (hb : Below W.heap.size W W') : TC W' b o l :=
  ⟨Nat.lt_of_lt_of_le h.1 hb.size, fun i hi => (hb.cell (p := ⟨b, o + i, none⟩) h.1).trans (h.2 i hi)⟩
theorem TC.keptB {W W' : World} {B b o : Nat} {l : List ByteArray} (h : TC W b o l) (hb : Below B W W') (hB : b < B) : TC W' b o l :=
  ⟨Nat.lt_of_lt_of_le h.1 hb.size, fun i hi => (hb.cell (p := ⟨b, o + i, none⟩) hB).trans (h.2 i hi)⟩
/-- the slice v holds the texts l -/
def TR (W : World) (v : Value) (l : List ByteArray) : Prop :=
  (l = [] ∧ ∃ a c, v = .slice a 0 c) ∨ ∃ b o cap, v = .slice (some ⟨b, o, none⟩) l.length cap ∧ TC W b o l
theorem TR.kept {W W' : World} {v : Value} {l : List ByteArray} (h : TR W v l) (hb : Below W.heap.size W W') : TR W' v l := by
  rcases h with h | ⟨b, o, cap, rfl, h⟩
  · exact .inl h
  · exact .inr ⟨b, o, cap, rfl, h.kept hb⟩
theorem TR.form {W : World} {v : Value} {l : List ByteArray} (h : TR W v l) : ∃ a c, v = .slice a l.length c := by
  rcases h with ⟨rfl, a, c, rfl⟩ | ⟨b, o, cap, rfl, _⟩
  · exact ⟨a, c, rfl⟩
  · exact ⟨_, _, rfl⟩
/-- a row of n texts of the call's own, written to -/
def TO (W : World) (b : Nat) (l : List ByteArray) : Prop := TC W b 0 l ∧ ∀ i, W.frozen? ⟨b, i, none⟩ = false
theorem TO.set {W : World} {b : Nat} {l : List ByteArray} (h : TO W b l) {k : Nat} (hk : k < l.length) (x : ByteArray) : TO (W.setCell ⟨b, k, none⟩ (.string x)) b (l.set k x) := by
  refine ⟨⟨by simpa using h.1.1, fun i hi => ?_⟩, fun i => by rw [World.frozen?_setCell]; exact h.2 i⟩
  have hi' : i < l.length := by simpa using hi
  have h3 := h.1.2 k hk
  have h1 := h.1.2 i hi'
  rw [Nat.zero_add] at h1 h3 ⊢
  by_cases e : i = k
  · subst e
    rw [List.getD_eq_getElem?_getD, List.getElem?_set_self hi']
    exact World.cell?_setCell_same _ _ _ h3
  · rw [World.cell?_setCell_other _ _ _ _ (by simp <;> omega), h1, List.getD_eq_getElem?_getD, List.getD_eq_getElem?_getD, List.getElem?_set_ne (by omega)]
theorem TO.made (w : World) (n : Nat) (t : TypeId) : TO (w.alloc (.cells (madeCells #[.string S0] n) t)) w.heap.size (List.replicate n S0) := by
  have e1 := (MapKept.heap_alloc w (.cells (madeCells #[.string S0] n) t)).1
  refine ⟨⟨by simp, fun i hi => ?_⟩, fun i => ?_⟩
  · have hi' : i < n := by simpa using hi
    simp only [World.cell?]
    rw [e1]
    have em : i % 1 = 0 := Nat.mod_one i
    simp [madeCells, hi', em]
  · simp only [World.frozen?]
    rw [e1]; simp
theorem TO.kept {W W' : World} {b : Nat} {l : List ByteArray} (h : TO W b l) (hb : Below W.heap.size W W') : TO W' b l :=
  ⟨h.1.kept hb, fun i => (hb.frozen (p := ⟨b, i, none⟩) h.1.1).trans (h.2 i)⟩
theorem infoS : (Tryd.prog.info? 9).map (fun i => (i.zero, i.size, i.bytes)) = some (some (.string ByteArray.empty), 1, 16) := by kernel_rfl
theorem copy_step (l : List ByteArray) (k : Nat) (h : k < l.length) : (l.take k ++ List.replicate (l.length - k) S0).set k (l.getD k S0) = l.take (k + 1) ++ List.replicate (l.length - (k + 1)) S0 := by
  have e : l.length - k = (l.length - (k + 1)) + 1 := by omega
  rw [e, List.replicate_succ, List.set_append_right _ _ (by simp; omega)]
  have e2 : k - (l.take k).length = 0 := by simp; omega
  rw [e2, List.set_cons_zero]
  have e3 : l.take (k + 1) = l.take k ++ [l.getD k S0] := by rw [List.take_add_one, List.getElem?_eq_getElem h]; simp [List.getD, h]
  rw [e3, List.append_assoc]; rfl

theorem TO.tr {W : World} {b cap : Nat} {l : List ByteArray} (h : TO W b l) : TR W (.slice (some ⟨b, 0, none⟩) l.length cap) l := .inr ⟨b, 0, cap, rfl, h.1⟩

theorem getD_eq {l m : List ByteArray} (hl : l.length = m.length) (h : ∀ i, i < l.length → l.getD i S0 = m.getD i S0) : l = m := by
  apply List.ext_getElem hl
  intro i h1 h2
  have := h i h1
  simpa [List.getD, h1, h2] using this
theorem txt_ext {s t : ByteArray} (h : s.toList = t.toList) : s = t := by
  rw [Lib.toList_data, Lib.toList_data] at h
  cases s; cases t
  simp only at h
  rw [Array.toList_inj.1 h]
theorem txt_ne {s t : ByteArray} (h : s ≠ t) : (s.toList == t.toList) = false := by
  rw [beq_eq_false_iff_ne]; intro e; exact h (txt_ext e)
theorem txt_eq {x y : ByteArray} (h : x = y) : (x.toList == y.toList) = true := by subst h; simp
/-- the sum of the texts' bytes -/
def sumT (l : List ByteArray) : Nat := (l.map (·.size)).sum
theorem sumT_take (l : List ByteArray) (k : Nat) (h : k < l.length) : sumT (l.take (k + 1)) = sumT (l.take k) + (l.getD k S0).size := by
  have e3 : l.take (k + 1) = l.take k ++ [l.getD k S0] := by rw [List.take_add_one, List.getElem?_eq_getElem h]; simp [List.getD, h]
  rw [e3]; simp [sumT]
theorem size_le_sum {l : List ByteArray} {u : ByteArray} (h : u ∈ l) : u.size ≤ sumT l := by
  unfold sumT
  induction l with
  | nil => cases h
  | cons x l ih =>
    rcases List.mem_cons.1 h with rfl | h
    · simp
    · have := ih h
      simp only [List.map_cons, List.sum_cons]; omega

theorem eqStr_len (v v' : Value) (l m : List ByteArray) (w : World) (h : TR w v l) (h' : TR w v' m) (hl : l.length ≤ maxLen) (hm : m.length ≤ maxLen) (hne : l.length ≠ m.length) :
    Calls Tryd.prog 15 #[v, v'] w fun e w' => e = .returned (.bool false) ∧ w' = w := by
  unfold maxLen at hl hm
  obtain ⟨a, c, rfl⟩ := h.form
  obtain ⟨a', c', rfl⟩ := h'.form
  have hb : (((l.length : Int)) != (m.length : Int)) = true := bne_iff_ne.2 (by omega)
  clear h h'
  go_enter Tryd.func15, Tryd.ntmps15
  go_wp2
  go_ret
  exact ⟨rfl, rfl⟩

set_option maxHeartbeats 800000 in
theorem eqStr_same (v v' : Value) (l m : List ByteArray) (w : World) (h : TR w v l) (h' : TR w v' m) (hl : l.length ≤ maxLen) (hlen : l.length = m.length) :
    Calls Tryd.prog 15 #[v, v'] w fun e w' => e = .returned (.bool (decide (l = m))) ∧ ∃ k, w' = w.drewN k := by
  unfold maxLen at hl
  by_cases h0 : l.length = 0
  · obtain rfl : l = [] := List.length_eq_zero_iff.1 h0
    obtain rfl : m = [] := List.length_eq_zero_iff.1 (by omega)
    obtain ⟨a, c, rfl⟩ := h.form
    obtain ⟨a', c', rfl⟩ := h'.form
    clear h h' hlen hl h0
    go_enter Tryd.func15, Tryd.ntmps15
    go_wp2
    refine wp_loop_rounds 1 ?_
    rw [rounds_succ]
    go_wp2
    go_ret
    exact ⟨rfl, 0, rfl⟩
  · rcases h with ⟨rfl, _⟩ | ⟨b, o, cap, rfl, hc⟩
    · simp at h0
    rcases h' with ⟨rfl, _⟩ | ⟨b', o', cap', rfl, hc'⟩
    · exact absurd (by rw [hlen]; rfl) h0
    have hb : (((l.length : Int)) != (m.length : Int)) = false := by simp; omega
    have HC := hide hc; have HC' := hide hc'; have HL := hide hlen
    clear hc hc' h0
    generalize hr : decide (l = m) = r
    have HR := hide hr; clear hr
    have hm : m.length ≤ 9223372036854775807 := by omega
    clear hlen
    go_enter Tryd.func15, Tryd.ntmps15
    go_wp2
    go_loopw [5] (fun i wr => ∃ k q : Nat, k ≤ l.length ∧ i = .int .i64 k ∧ Hid (∀ j, j < k → l.getD j S0 = m.getD j S0) ∧ wr = w.drewN q) (fun i _ => l.length - (intOf i).toNat)
    case atStart => exact ⟨0, 0, Nat.zero_le _, rfl, fun j hj => by omega, rfl⟩
    case round =>
      obtain ⟨k, q, hk, rfl, hd, rfl⟩ := hrel
      by_cases hlt : k < l.length
      · have hlt' : k < m.length := by have := unhide HL; omega
        have c1 := (unhide HC).2 k hlt
        have c2 := (unhide HC').2 k hlt'
        have i1 : (0 : Int) ≤ (k : Int) := by omega
        have i2 : (k : Int) < (l.length : Int) := by omega
        have i3 : (k : Int) < (m.length : Int) := by omega
        by_cases hx : l.getD k S0 = m.getD k S0
        · have hx' := txt_eq hx
          have hd' : Hid (∀ j, j < k + 1 → l.getD j S0 = m.getD j S0) := fun j hj => by
            by_cases e : j < k
            · exact unhide hd j e
            · obtain rfl : j = k := by omega
              exact hx
          clear hx
          generalize l.getD k S0 = x at *
          generalize m.getD k S0 = y at *
          go_wp2
          go_quiet (fail)
          go_wp2
          exact ⟨⟨k + 1, _, by omega, by go_num, hd', rfl⟩, by simp [intOf]; omega⟩
        · have hx' := txt_ne hx
          have hr : r = false := by
            rw [← unhide HR]
            simp only [decide_eq_false_iff_not]
            intro e; exact hx (by rw [e])
          subst hr
          clear hx
          generalize l.getD k S0 = x at *
          generalize m.getD k S0 = y at *
          go_wp2
          go_quiet (fail)
          go_wp2
          go_ret
          exact ⟨rfl, _, World.drewN_drewN _ _ _⟩
      · have hr : r = true := by
          rw [← unhide HR]
          simp only [decide_eq_true_eq]
          exact getD_eq (unhide HL) (fun i hi => unhide hd i (by omega))
        subst hr
        go_wp2
        go_ret
        exact ⟨rfl, _, rfl⟩

/-- laws.eqStringS: are the two the same? -/
theorem eqStr (v v' : Value) (l m : List ByteArray) (w : World) (h : TR w v l) (h' : TR w v' m) (hl : l.length ≤ maxLen) (hm : m.length ≤ maxLen) :
    Calls Tryd.prog 15 #[v, v'] w fun e w' => e = .returned (.bool (decide (l = m))) ∧ ∃ k, w' = w.drewN k := by
  by_cases he : l.length = m.length
  · exact eqStr_same v v' l m w h h' hl he
  · refine (eqStr_len v v' l m w h h' hl hm he).mono ?_
    rintro e w' ⟨rfl, rfl⟩
    have : decide (l = m) = false := by simp only [decide_eq_false_iff_not]; intro e; exact he (by rw [e])
    exact ⟨by rw [this], 0, rfl⟩

theorem waSm_len (v v' : Value) (l m : List ByteArray) (w : World) (h : TR w v l) (h' : TR w v' m) (hl : l.length ≤ maxLen) (hm : m.length ≤ maxLen) (hne : l.length ≠ m.length) :
    Calls Tryd.prog 12 #[v, v'] w fun e w' => e = .returned (.bool false) ∧ w' = w := by
  unfold maxLen at hl hm
  obtain ⟨a, c, rfl⟩ := h.form
  obtain ⟨a', c', rfl⟩ := h'.form
  have hb : (((l.length : Int)) != (m.length : Int)) = true := bne_iff_ne.2 (by omega)
  clear h h'
  go_enter Tryd.func12, Tryd.ntmps12
  go_wp2
  go_ret
  exact ⟨rfl, rfl⟩

set_option maxHeartbeats 800000 in
theorem waSm_same (v v' : Value) (l m : List ByteArray) (w : World) (h : TR w v l) (h' : TR w v' m) (hl : l.length ≤ maxLen) (hlen : l.length = m.length) :
    Calls Tryd.prog 12 #[v, v'] w fun e w' => e = .returned (.bool (decide (l = m))) ∧ ∃ k, w' = w.drewN k := by
  unfold maxLen at hl
  by_cases h0 : l.length = 0
  · obtain rfl : l = [] := List.length_eq_zero_iff.1 h0
    obtain rfl : m = [] := List.length_eq_zero_iff.1 (by omega)
    obtain ⟨a, c, rfl⟩ := h.form
    obtain ⟨a', c', rfl⟩ := h'.form
    clear h h' hlen hl h0
    go_enter Tryd.func12, Tryd.ntmps12
    go_wp2
    refine wp_loop_rounds 1 ?_
    rw [rounds_succ]
    go_wp2
    go_ret
    exact ⟨rfl, 0, rfl⟩
  · rcases h with ⟨rfl, _⟩ | ⟨b, o, cap, rfl, hc⟩
    · simp at h0
    rcases h' with ⟨rfl, _⟩ | ⟨b', o', cap', rfl, hc'⟩
    · exact absurd (by rw [hlen]; rfl) h0
    have hb : (((l.length : Int)) != (m.length : Int)) = false := by simp; omega
    have HC := hide hc; have HC' := hide hc'; have HL := hide hlen
    clear hc hc' h0
    generalize hr : decide (l = m) = r
    have HR := hide hr; clear hr
    have hm : m.length ≤ 9223372036854775807 := by omega
    clear hlen
    go_enter Tryd.func12, Tryd.ntmps12
    go_wp2
    go_loopw [5] (fun i wr => ∃ k q : Nat, k ≤ l.length ∧ i = .int .i64 k ∧ Hid (∀ j, j < k → l.getD j S0 = m.getD j S0) ∧ wr = w.drewN q) (fun i _ => l.length - (intOf i).toNat)
    case atStart => exact ⟨0, 0, Nat.zero_le _, rfl, fun j hj => by omega, rfl⟩
    case round =>
      obtain ⟨k, q, hk, rfl, hd, rfl⟩ := hrel
      by_cases hlt : k < l.length
      · have hlt' : k < m.length := by have := unhide HL; omega
        have c1 := (unhide HC).2 k hlt
        have c2 := (unhide HC').2 k hlt'
        have i1 : (0 : Int) ≤ (k : Int) := by omega
        have i2 : (k : Int) < (l.length : Int) := by omega
        have i3 : (k : Int) < (m.length : Int) := by omega
        by_cases hx : l.getD k S0 = m.getD k S0
        · have hx' := txt_eq hx
          have hd' : Hid (∀ j, j < k + 1 → l.getD j S0 = m.getD j S0) := fun j hj => by
            by_cases e : j < k
            · exact unhide hd j e
            · obtain rfl : j = k := by omega
              exact hx
          clear hx
          generalize l.getD k S0 = x at *
          generalize m.getD k S0 = y at *
          go_wp2
          go_quiet (fail)
          go_wp2
          exact ⟨⟨k + 1, _, by omega, by go_num, hd', rfl⟩, by simp [intOf]; omega⟩
        · have hx' := txt_ne hx
          have hr : r = false := by
            rw [← unhide HR]
            simp only [decide_eq_false_iff_not]
            intro e; exact hx (by rw [e])
          subst hr
          clear hx
          generalize l.getD k S0 = x at *
          generalize m.getD k S0 = y at *
          go_wp2
          go_quiet (fail)
          go_wp2
          go_ret
          exact ⟨rfl, _, World.drewN_drewN _ _ _⟩
      · have hr : r = true := by
          rw [← unhide HR]
          simp only [decide_eq_true_eq]
          exact getD_eq (unhide HL) (fun i hi => unhide hd i (by omega))
        subst hr
        go_wp2
        go_ret
        exact ⟨rfl, _, rfl⟩

/-- laws.waSame: are the two the same? -/
theorem waSm (v v' : Value) (l m : List ByteArray) (w : World) (h : TR w v l) (h' : TR w v' m) (hl : l.length ≤ maxLen) (hm : m.length ≤ maxLen) :
    Calls Tryd.prog 12 #[v, v'] w fun e w' => e = .returned (.bool (decide (l = m))) ∧ ∃ k, w' = w.drewN k := by
  by_cases he : l.length = m.length
  · exact waSm_same v v' l m w h h' hl he
  · refine (waSm_len v v' l m w h h' hl hm he).mono ?_
    rintro e w' ⟨rfl, rfl⟩
    have : decide (l = m) = false := by simp only [decide_eq_false_iff_not]; intro e; exact he (by rw [e])
    exact ⟨by rw [this], 0, rfl⟩

end Go.Proofs.YtpamdnkngedmaaaDoor.Txt
