/-
  The laws' own helpers on slices of events: markText, markUseEventS, heldUseEventS.
-/
import Derived.Test.YtdjjgoeinkbmjaaEvs
import Derived.Test.YtdjjgoeinkbmjaaRegIn
import Derived.Laws.IdiomStrings
namespace Go.Proofs.Ytdjjgoeinkbmjaa.Evs
set_option linter.unusedVariables false
open Go.RowKit RegIn

/-- a string of one byte -/
theorem conv1 (w : World) (c : Int) (h0 : 0 ≤ c) (h1 : c ≤ 255) : (convert 156 9 (.slice (some ⟨w.heap.size, 0, none⟩) 1 1)).run Try.prog (w.alloc (.cells #[.int .u8 c] 5)) = .ok (.string ⟨#[UInt8.ofNat c.toNat]⟩) (w.alloc (.cells #[.int .u8 c] 5)) := by
  have h := run_convert_bytes_back (P := Try.prog) (w.alloc (.cells #[.int .u8 c] 5)) 156 9 5 ⟨w.heap.size, 0, none⟩ 1 [UInt8.ofNat c.toNat] Try.underlying156 Try.underlying5 Try.underlying9 ?_
  · exact h
  · intro j hj
    obtain rfl : j = 0 := by simpa using hj
    have e : ((UInt8.ofNat c.toNat).toNat : Int) = c := by
      simp; omega
    rw [Addr.add_lit]
    show (w.alloc _).cell? _ = some (.int .u8 ((UInt8.ofNat c.toNat).toNat : Int))
    rw [e]
    have e1 := (MapKept.heap_alloc w (.cells #[.int .u8 c] 5)).1
    simp only [World.cell?]
    rw [e1]; rfl
theorem cat (a b : List UInt8) : ((⟨a.toArray⟩ : ByteArray) ++ ⟨b.toArray⟩) = ⟨(a ++ b).toArray⟩ := by
  apply ByteArray.ext; simp
theorem digit (k : Nat) : 48 + UInt8.ofNat k = UInt8.ofNat (48 + k) := by rw [UInt8.ofNat_add]; rfl

/-- the digits of a number, none of nought -/
def digs : Nat → List UInt8
  | 0 => []
  | k + 1 => digs ((k + 1) / 10) ++ [UInt8.ofNat (48 + (k + 1) % 10)]
termination_by k => k
decreasing_by omega
theorem digs_pos {k : Nat} (h : 0 < k) : digs k = digs (k / 10) ++ [UInt8.ofNat (48 + k % 10)] := by
  cases k with
  | zero => omega
  | succ k => rw [digs]
theorem digs_zero : digs 0 = [] := by rw [digs]
/-- the text that marks -/
def mt (k : Nat) : ByteArray := ⟨(109 :: digs k).toArray⟩

set_option maxHeartbeats 800000 in
/-- markText -/
theorem markT (n : Nat) (w : World) (h1 : 1 ≤ n) (hn : n ≤ 1000000000) : Calls Try.prog 69 #[.int .i64 (n : Int)] w fun e w' => e = .returned (.string (mt n)) ∧ Below w.heap.size w w' := by
  generalize hr : mt n = r
  have HR := hide hr
  clear hr
  have y1 : (0 : Int) < (n : Int) := by omega
  go_enter Try.func69, Try.ntmps69
  go_wp2
  go_loopw [0, 3] (fun t0 t3 wr => ∃ (m : Nat) (out : List UInt8), m ≤ n ∧ t0 = .int .i64 m ∧ t3 = .string ⟨out.toArray⟩ ∧ Hid (digs n = digs m ++ out) ∧ out.length + m ≤ n ∧ Below w.heap.size w wr) (fun t0 _ _ => (intOf t0).toNat)
  case atStart => exact ⟨n, [], Nat.le_refl _, rfl, rfl, by show _ = _; simp, by simp, Below.refl _ _⟩
  case round =>
    obtain ⟨m, out, hm, rfl, rfl, hd, hl, hb⟩ := hrel
    have hl2 : 1 + out.length ≤ 9223372036854775807 := by omega
    by_cases h0 : 0 < m
    · have hcv := conv1 wr (48 + (m : Int) % 10) (by omega) (by omega)
      have y2 : (0 : Int) < (m : Int) := by omega
      go_wp2
      refine ⟨⟨m / 10, UInt8.ofNat (48 + m % 10) :: out, by omega, by go_num, ?_, ?_, by simp; omega, hb.alloc hb.size _⟩, by simp [intOf]; omega⟩
      · have := cat [48 + UInt8.ofNat (m % 10)] out
        rw [digit] at this ⊢
        exact congrArg Value.string this
      · show _ = _
        rw [unhide hd, digs_pos h0]; simp
    · obtain rfl : m = 0 := by omega
      have hout : digs n = out := by rw [unhide hd, digs_zero]; rfl
      go_wp2
      go_ret
      refine ⟨?_, hb⟩
      rw [← unhide HR, mt, hout]
      exact congrArg (fun x => Ending.returned (.string x)) (cat [109] out)

theorem EOwn.setA {W : World} {b : Nat} {l : List E} (h : EOwn W b l) {k : Nat} (hk : k < l.length) (s : ByteArray) :
    EOwn (W.setCell ⟨b, k * 3, none⟩ (.string s)) b (l.set k (s, (l.getD k E0).2.1, (l.getD k E0).2.2)) := by
  refine ⟨⟨by simpa using h.1.1, fun i hi => ?_⟩, fun j => by simpa [World.frozen?_setCell] using h.2 j⟩
  have hi' : i < l.length := by simpa using hi
  obtain ⟨c0, c1, c2⟩ := h.1.2 i hi'
  rw [Nat.zero_add] at c0 c1 c2 ⊢
  have d1 : (⟨b, k * 3, none⟩ : Addr) ≠ ⟨b, i * 3 + 1, none⟩ := fun he => by simp only [Addr.mk.injEq, and_true, true_and] at he; omega
  have d2 : (⟨b, k * 3, none⟩ : Addr) ≠ ⟨b, i * 3 + 2, none⟩ := fun he => by simp only [Addr.mk.injEq, and_true, true_and] at he; omega
  by_cases e : i = k
  · subst e
    rw [List.getD_eq_getElem?_getD, List.getElem?_set_self hi']
    exact ⟨World.cell?_setCell_same _ _ _ c0, by rw [World.cell?_setCell_other _ _ _ _ d1]; exact c1, by rw [World.cell?_setCell_other _ _ _ _ d2]; exact c2⟩
  · have d0 : (⟨b, k * 3, none⟩ : Addr) ≠ ⟨b, i * 3, none⟩ := fun he => by simp only [Addr.mk.injEq, and_true, true_and] at he; omega
    rw [World.cell?_setCell_other _ _ _ _ d0, World.cell?_setCell_other _ _ _ _ d1, World.cell?_setCell_other _ _ _ _ d2, c0, c1, c2, List.getD_eq_getElem?_getD, List.getD_eq_getElem?_getD, List.getElem?_set_ne (by omega)]
    exact ⟨rfl, rfl, rfl⟩
theorem EOwn.setB {W : World} {b : Nat} {l : List E} (h : EOwn W b l) {k : Nat} (hk : k < l.length) (s : ByteArray) :
    EOwn (W.setCell ⟨b, k * 3 + 1, none⟩ (.string s)) b (l.set k ((l.getD k E0).1, s, (l.getD k E0).2.2)) := by
  refine ⟨⟨by simpa using h.1.1, fun i hi => ?_⟩, fun j => by simpa [World.frozen?_setCell] using h.2 j⟩
  have hi' : i < l.length := by simpa using hi
  obtain ⟨c0, c1, c2⟩ := h.1.2 i hi'
  rw [Nat.zero_add] at c0 c1 c2 ⊢
  have d0 : (⟨b, k * 3 + 1, none⟩ : Addr) ≠ ⟨b, i * 3, none⟩ := fun he => by simp only [Addr.mk.injEq, and_true, true_and] at he; omega
  have d2 : (⟨b, k * 3 + 1, none⟩ : Addr) ≠ ⟨b, i * 3 + 2, none⟩ := fun he => by simp only [Addr.mk.injEq, and_true, true_and] at he; omega
  by_cases e : i = k
  · subst e
    rw [List.getD_eq_getElem?_getD, List.getElem?_set_self hi']
    exact ⟨by rw [World.cell?_setCell_other _ _ _ _ d0]; exact c0, World.cell?_setCell_same _ _ _ c1, by rw [World.cell?_setCell_other _ _ _ _ d2]; exact c2⟩
  · have d1 : (⟨b, k * 3 + 1, none⟩ : Addr) ≠ ⟨b, i * 3 + 1, none⟩ := fun he => by simp only [Addr.mk.injEq, and_true, true_and] at he; omega
    rw [World.cell?_setCell_other _ _ _ _ d0, World.cell?_setCell_other _ _ _ _ d1, World.cell?_setCell_other _ _ _ _ d2, c0, c1, c2, List.getD_eq_getElem?_getD, List.getD_eq_getElem?_getD, List.getElem?_set_ne (by omega)]
    exact ⟨rfl, rfl, rfl⟩
theorem EOwn.setQ {W : World} {b : Nat} {l : List E} (h : EOwn W b l) {k : Nat} (hk : k < l.length) (q : Int) :
    EOwn (W.setCell ⟨b, k * 3 + 2, none⟩ (.int .i64 q)) b (l.set k ((l.getD k E0).1, (l.getD k E0).2.1, q)) := by
  refine ⟨⟨by simpa using h.1.1, fun i hi => ?_⟩, fun j => by simpa [World.frozen?_setCell] using h.2 j⟩
  have hi' : i < l.length := by simpa using hi
  obtain ⟨c0, c1, c2⟩ := h.1.2 i hi'
  rw [Nat.zero_add] at c0 c1 c2 ⊢
  have d0 : (⟨b, k * 3 + 2, none⟩ : Addr) ≠ ⟨b, i * 3, none⟩ := fun he => by simp only [Addr.mk.injEq, and_true, true_and] at he; omega
  have d1 : (⟨b, k * 3 + 2, none⟩ : Addr) ≠ ⟨b, i * 3 + 1, none⟩ := fun he => by simp only [Addr.mk.injEq, and_true, true_and] at he; omega
  by_cases e : i = k
  · subst e
    rw [List.getD_eq_getElem?_getD, List.getElem?_set_self hi']
    exact ⟨by rw [World.cell?_setCell_other _ _ _ _ d0]; exact c0, by rw [World.cell?_setCell_other _ _ _ _ d1]; exact c1, World.cell?_setCell_same _ _ _ c2⟩
  · have d2 : (⟨b, k * 3 + 2, none⟩ : Addr) ≠ ⟨b, i * 3 + 2, none⟩ := fun he => by simp only [Addr.mk.injEq, and_true, true_and] at he; omega
    rw [World.cell?_setCell_other _ _ _ _ d0, World.cell?_setCell_other _ _ _ _ d1, World.cell?_setCell_other _ _ _ _ d2, c0, c1, c2, List.getD_eq_getElem?_getD, List.getD_eq_getElem?_getD, List.getElem?_set_ne (by omega)]
    exact ⟨rfl, rfl, rfl⟩

/-- the marks of a row -/
def marksE (k n : Nat) : List E := (List.range n).map fun i => (mt (k + 3 * i), mt (k + 3 * i + 1), ((k + 3 * i + 2 : Nat) : Int))
theorem marksE_len (k n : Nat) : (marksE k n).length = n := by simp [marksE]
theorem marksE_step (k : Nat) (l : List E) (j : Nat) (h : j < l.length) : (marksE k j ++ l.drop j).set j (mt (k + 3 * j), mt (k + 3 * j + 1), ((k + 3 * j + 2 : Nat) : Int)) = marksE k (j + 1) ++ l.drop (j + 1) := by
  rw [List.set_append_right _ _ (by rw [marksE_len]; exact Nat.le_refl _), marksE_len, Nat.sub_self, List.drop_eq_getElem_cons h, List.set_cons_zero]
  have e : marksE k (j + 1) = marksE k j ++ [(mt (k + 3 * j), mt (k + 3 * j + 1), ((k + 3 * j + 2 : Nat) : Int))] := by
    unfold marksE
    rw [List.range_succ, List.map_append]
    rfl
  rw [e, List.append_assoc]
  rfl
theorem grow0 (w : World) (r : Option Nat) : w.grownBy w r := World.grownBy.refl _ _
theorem growB {a b : World} (h : Below a.heap.size a b) (r : Option Nat) : a.grownBy b r := ⟨h.os, h.tape, h.output, h.size, fun j hj _ => h.block j hj⟩
theorem growT {a b c : World} {r : Option Nat} (h : a.grownBy b r) (k : b.grownBy c r) : a.grownBy c r :=
  ⟨k.os.trans h.os, k.tape.trans h.tape, k.output.trans h.output, Nat.le_trans h.size k.size, fun j hj hne => (k.block j (Nat.lt_of_lt_of_le hj h.size) hne).trans (h.block j hj hne)⟩
theorem growS (w : World) (b o : Nat) (u : Value) : w.grownBy (w.setCell ⟨b, o, none⟩ u) (some b) := by
  refine ⟨rfl, rfl, rfl, ?_, ?_⟩
  · simp
  · intro j hj hne
    exact Below.heap_setCell w ⟨b, o, none⟩ u j (fun e => hne (by rw [e]))

theorem getD_set {L : List E} {j : Nat} (h : j < L.length) (y : E) : (L.set j y).getD j E0 = y := by simp [List.getD, h]

set_option maxHeartbeats 1000000 in
/-- markUseEventS -/
theorem markEvs (B : Nat) (v : Value) (l : List E) (k : Nat) (w : World) (h : EN B w v l) (hl : l.length ≤ 1048576) (h0 : 1 ≤ k) (h1 : k ≤ 1000000) :
    Calls Try.prog 30 #[v, .int .i64 (k : Int)] w fun e w' => e = .returned (.int .i64 ((k + 3 * l.length : Nat) : Int)) ∧ EN B w' v (marksE k l.length) ∧ ∃ r, w.grownBy w' r ∧ ∀ b, r = some b → v.ownBlock = some b ∧ l ≠ [] ∧ B ≤ b := by
  rcases h with ⟨rfl, a, c, rfl⟩ | ⟨b, cap, rfl, hB, hO⟩
  · go_enter Try.func30, Try.ntmps30
    go_wp2
    refine wp_loop_rounds 1 ?_
    rw [rounds_succ]
    go_wp2
    go_ret
    exact ⟨by simp, .inl ⟨rfl, _, _, rfl⟩, none, grow0 _ _, fun b hb => by simp at hb⟩
  · by_cases hne : l = []
    · subst hne
      clear hO
      go_enter Try.func30, Try.ntmps30
      go_wp2
      refine wp_loop_rounds 1 ?_
      rw [rounds_succ]
      go_wp2
      go_ret
      exact ⟨by simp, .inl ⟨rfl, _, _, rfl⟩, none, grow0 _ _, fun b hb => by simp at hb⟩
    have HO := hide hO
    clear hO
    go_enter Try.func30, Try.ntmps30
    go_wp2
    go_loopw [1, 5] (fun t i wr => ∃ j : Nat, j ≤ l.length ∧ i = .int .i64 j ∧ t = .int .i64 ((k + 3 * j : Nat) : Int) ∧ Hid (EOwn wr b (marksE k j ++ l.drop j)) ∧ Hid (w.grownBy wr (some b))) (fun _ i _ => l.length - (intOf i).toNat)
    case atStart => exact ⟨0, Nat.zero_le _, rfl, by simp, by show EOwn _ _ _; simpa [marksE] using unhide HO, hide (grow0 _ _)⟩
    case round =>
      obtain ⟨j, hj, rfl, rfl, hd, hg⟩ := hrel
      by_cases hlt : j < l.length
      · have hj2 : j < (marksE k j ++ l.drop j).length := by rw [List.length_append, marksE_len, List.length_drop]; omega
        have HS := hide (marksE_step k l j hlt)
        generalize marksE k j ++ l.drop j = L at *
        have i1 : (0 : Int) ≤ (j : Int) := by omega
        have i2 : (j : Int) < (l.length : Int) := by omega
        go_wp2_with (fail)
        refine (markT (k + 3 * j) wr (by omega) (by omega)).mono ?_
        rintro e w1 ⟨rfl, hb1⟩
        have ho1 := (unhide hd).kept hb1
        obtain ⟨c0, _, _⟩ := ho1.1.2 j hj2
        have f0 := ho1.2 (j * 3)
        rw [Nat.zero_add] at c0
        have ho2 := ho1.setA hj2 (mt (k + 3 * j))
        generalize hy0 : L.getD j E0 = y0 at *
        have O2 := hide ho2
        have G2 := hide (growT (unhide hg) (growT (growB hb1 (some b)) (growS w1 b (j * 3) (.string (mt (k + 3 * j))))))
        clear ho1 ho2 hb1 hd hg
        generalize mt (k + 3 * j) = m1 at *
        go_wp2_with (fail)
        have e1 : ((k + 3 * j : Nat) : Int) + 1 = ((k + 3 * j + 1 : Nat) : Int) := by omega
        refine (markT (k + 3 * j + 1) _ (by omega) (by omega)).mono ?_
        rintro e w2 ⟨rfl, hb2⟩
        have ho3 := (unhide O2).kept hb2
        have hj3 : j < (L.set j (m1, y0.2.1, y0.2.2)).length := by simpa using hj2
        obtain ⟨_, c1, _⟩ := ho3.1.2 j hj3
        have f1 := ho3.2 (j * 3 + 1)
        rw [Nat.zero_add] at c1
        have ho4 := ho3.setB hj3 (mt (k + 3 * j + 1))
        rw [getD_set hj2, List.set_set] at ho4
        have hj4 : j < (L.set j (m1, mt (k + 3 * j + 1), y0.2.2)).length := by simpa using hj2
        obtain ⟨_, _, c2⟩ := ho4.1.2 j hj4
        have f2 := ho4.2 (j * 3 + 2)
        rw [Nat.zero_add] at c2
        have ho5 := ho4.setQ hj4 ((k + 3 * j + 2 : Nat) : Int)
        rw [getD_set hj2, List.set_set] at ho5
        have O5 := hide ho5
        have G4 := hide (growT (unhide G2) (growT (growB hb2 (some b)) (growS w2 b (j * 3 + 1) (.string (mt (k + 3 * j + 1))))))
        have G5 := hide (growT (unhide G4) (growS _ b (j * 3 + 2) (.int .i64 ((k + 3 * j + 2 : Nat) : Int))))
        have e3 : ((k + 3 * j + 1 : Nat) : Int) + 1 = ((k + 3 * j + 2 : Nat) : Int) := by omega
        clear ho3 ho4 ho5 hb2 O2 G2 G4 hj3 hj4
        generalize mt (k + 3 * j + 1) = m2 at *
        rw [unhide HS] at O5
        go_wp2
        exact ⟨⟨j + 1, by omega, by go_num, by congr 1, O5, G5⟩, by simp [intOf]; omega⟩
      · obtain rfl : j = l.length := by omega
        go_wp2
        go_ret
        refine ⟨rfl, .inr ⟨b, cap, by rw [marksE_len], ⟨hB.1, by rw [marksE_len]; exact hB.2⟩, ?_⟩, some b, unhide hg, fun b' hb' => by cases hb'; exact ⟨rfl, hne, hB.1⟩⟩
        have := unhide hd
        simpa using this

theorem marksE_at {k n j : Nat} (h : j < n) : (marksE k n).getD j E0 = (mt (k + 3 * j), mt (k + 3 * j + 1), ((k + 3 * j + 2 : Nat) : Int)) := by simp [marksE, List.getD, h]

set_option maxHeartbeats 1000000 in
/-- heldUseEventS, of a row that holds its marks -/
theorem heldEvs (v : Value) (n k : Nat) (w : World) (h : ER w v (marksE k n)) (hl : n ≤ 1048576) (h0 : 1 ≤ k) (h1 : k ≤ 1000000) :
    Calls Try.prog 31 #[v, .int .i64 (k : Int)] w fun e w' => e = .returned (.int .i64 ((k + 3 * n : Nat) : Int)) ∧ Below w.heap.size w w' := by
  rcases h with ⟨hn, a, c, rfl⟩ | ⟨b, o, cap, rfl, hc⟩
  · have : n = 0 := by have := congrArg List.length hn; rw [marksE_len] at this; exact this
    subst this
    clear hn
    go_enter Try.func31, Try.ntmps31
    go_wp2
    refine wp_loop_rounds 1 ?_
    rw [rounds_succ]
    go_wp2
    go_ret
    exact ⟨by simp, Below.refl _ _⟩
  · rw [marksE_len]
    have HC := hide hc
    have hbs := hc.1
    clear hc
    go_enter Try.func31, Try.ntmps31
    go_wp2
    go_loopw [1, 5] (fun t i wr => ∃ j : Nat, j ≤ n ∧ i = .int .i64 j ∧ t = .int .i64 ((k + 3 * j : Nat) : Int) ∧ Hid (Below w.heap.size w wr)) (fun _ i _ => n - (intOf i).toNat)
    case atStart => exact ⟨0, Nat.zero_le _, rfl, by simp, hide (Below.refl _ _)⟩
    case round =>
      obtain ⟨j, hj, rfl, rfl, hb⟩ := hrel
      by_cases hlt : j < n
      · have HCW : Hid (∀ w2 : World, Below w.heap.size w w2 → w2.cell? ⟨b, o + j * 3, none⟩ = some (.string (mt (k + 3 * j))) ∧ w2.cell? ⟨b, o + j * 3 + 1, none⟩ = some (.string (mt (k + 3 * j + 1))) ∧ w2.cell? ⟨b, o + j * 3 + 2, none⟩ = some (.int .i64 ((k + 3 * j + 2 : Nat) : Int))) := hide (fun w2 h2 => by
          have := ((unhide HC).kept h2).2 j (by rw [marksE_len]; exact hlt)
          rw [marksE_at hlt] at this
          exact this)
        have g0 : ∀ g : In (Below w.heap.size w), g.x.cell? ⟨b, o + j * 3, none⟩ = some (.string (mt (k + 3 * j))) := fun g => (unhide HCW g.x g.h).1
        have g1 : ∀ g : In (Below w.heap.size w), g.x.cell? ⟨b, o + j * 3 + 1, none⟩ = some (.string (mt (k + 3 * j + 1))) := fun g => (unhide HCW g.x g.h).2.1
        have HC1 : Hid (∀ g : In (Below w.heap.size w), Calls Try.prog 69 #[.int .i64 ((k + 3 * j : Nat) : Int)] g.x fun x w' => x = .returned (.string (mt (k + 3 * j))) ∧ Below w.heap.size w w') := hide (fun g => (markT (k + 3 * j) g.x (by omega) (by omega)).mono (fun x w' ⟨hx, h2⟩ => ⟨hx, below_trans g.h h2⟩))
        have HC2 : Hid (∀ g : In (Below w.heap.size w), Calls Try.prog 69 #[.int .i64 ((k + 3 * j + 1 : Nat) : Int)] g.x fun x w' => x = .returned (.string (mt (k + 3 * j + 1))) ∧ Below w.heap.size w w') := hide (fun g => (markT (k + 3 * j + 1) g.x (by omega) (by omega)).mono (fun x w' ⟨hx, h2⟩ => ⟨hx, below_trans g.h h2⟩))
        have i1 : (0 : Int) ≤ (j : Int) := by omega
        have i2 : (j : Int) < (n : Int) := by omega
        have q1 : (!(mt (k + 3 * j)).toList == (mt (k + 3 * j)).toList) = false := by simp
        have q2 : (!(mt (k + 3 * j + 1)).toList == (mt (k + 3 * j + 1)).toList) = false := by simp
        generalize mt (k + 3 * j) = m1 at *
        generalize mt (k + 3 * j + 1) = m2 at *
        have e1 : ((k + 3 * j : Nat) : Int) + 1 = ((k + 3 * j + 1 : Nat) : Int) := by omega
        have e3 : ((k + 3 * j + 1 : Nat) : Int) + 1 = ((k + 3 * j + 2 : Nat) : Int) := by omega
        go_wp2
        refine wp_region_in (Below w.heap.size w) (by kernel_rfl) (by kernel_rfl) (below_drewN' (unhide hb) 1) ?_
        intro hne
        repeat (go_big_quiet_step (exact call_in _ (unhide HC1 _)))
        refine wpQuiet_nil ?_
        rintro _ ⟨g, rfl⟩
        have B1 := hide g.h
        clear hb
        go_wp2
        refine wp_region_in (Below w.heap.size w) (by kernel_rfl) (by kernel_rfl) (below_drewN' (unhide B1) 1) ?_
        intro hne2
        repeat (go_big_quiet_step (exact call_in _ (unhide HC2 _)))
        refine wpQuiet_nil ?_
        rintro _ ⟨g2, rfl⟩
        have c2 := (unhide HCW g2.x g2.h).2.2
        have B2 := hide g2.h
        clear B1
        have q3 : (((k + 3 * j + 2 : Nat) : Int) != ((k + 3 * j + 2 : Nat) : Int)) = false := by simp
        go_wp2
        exact ⟨⟨j + 1, by omega, by go_num, by congr 1, B2⟩, by simp [intOf]; omega⟩
      · obtain rfl : j = n := by omega
        go_wp2
        go_ret
        exact ⟨rfl, unhide hb⟩
end Go.Proofs.Ytdjjgoeinkbmjaa.Evs
