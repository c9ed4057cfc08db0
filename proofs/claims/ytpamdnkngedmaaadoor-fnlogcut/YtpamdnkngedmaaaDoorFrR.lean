/-
  spec.LogRead.
-/
import Derived.Test.YtpamdnkngedmaaaDoorFrN
import Derived.Test.YtpamdnkngedmaaaDoorDrawTx
namespace Go.Proofs.YtpamdnkngedmaaaDoor.Fr
set_option linter.unusedVariables false
open Go.RowKit
open Txt (S0 TC TR txt_eq txt_ne)
open Draw (TN listAppT grown_trans grown_far)

theorem drop_at {s : ByteArray} {a : Nat} {w r : List UInt8} (h : s.data.toList.drop a = w ++ 32 :: r) : s.data.toList.drop (a + w.length + 1) = r := by
  have : a + w.length + 1 = a + (w.length + 1) := by omega
  rw [this, ← List.drop_drop, h]; simp
/-- the frame of a text begins here: so its numbers, and the text, are found -/
theorem fr_nums {s : ByteArray} {a k m : Nat} {n q : Int} {t : List UInt8} (h : IsFr (s.data.toList.drop a) t) (h1 : Num9 s a n k) (h2 : Num9 s k q m) : n = (t.length : Int) ∧ 0 ≤ q ∧ m + t.length < s.size ∧ (s.extract m (m + t.length)).data.toList = t := by
  obtain ⟨ht, y, e⟩ := h
  have e1 : s.data.toList.drop a = Lib.itoa (t.length : Int) ++ 32 :: (Lib.itoa (sumL t) ++ 32 :: (t ++ 10 :: y)) := by
    rw [e]; unfold frB; simp
  obtain ⟨rfl, rfl⟩ := h1.2.2.2.2 _ _ (by omega) (by omega) e1
  have e2 := drop_at e1
  obtain ⟨rfl, rfl⟩ := h2.2.2.2.2 _ _ (sumL_bd t).1 (sumL_bd t).2 e2
  have e3 := drop_at e2
  refine ⟨rfl, (sumL_bd t).1, ?_, ?_⟩
  · have := congrArg List.length e3
    rw [List.length_drop, toL] at this
    simp at this
    omega
  · rw [ext_word, e3]; simp
theorem no_stop1 {s : ByteArray} {a k m : Nat} {n q : Int} (h1 : Num9 s a n k) (h2 : Num9 s k q m) (h : n < 0 ∨ q < 0 ∨ (s.size : Int) - m < n) : ∀ t, ¬ IsFr (s.data.toList.drop a) t := by
  intro t ht
  obtain ⟨e1, e2, e3, _⟩ := fr_nums ht h1 h2
  omega
theorem no_stop2 {s : ByteArray} {a k m nn : Nat} {q : Int} (h1 : Num9 s a nn k) (h2 : Num9 s k q m) (h : ¬ IsFr (s.data.toList.drop a) (s.extract m (m + nn)).data.toList) : ∀ t, ¬ IsFr (s.data.toList.drop a) t := by
  intro t ht
  obtain ⟨e1, e2, e3, e4⟩ := fr_nums ht h1 h2
  have e5 : nn = t.length := by omega
  rw [e5, e4] at h
  exact h ht
/-- the frame lies there -/
theorem fr_there {s : ByteArray} {a : Nat} {t : List UInt8} (h : IsFr (s.data.toList.drop a) t) : a + (frB t).length ≤ s.size ∧ s.extract a (a + (frB t).length) = Num.bytesOf (frB t) := by
  have hl := h.len
  have h4 := frB_pos t
  rw [List.length_drop, toL] at hl
  obtain ⟨h1, y, e⟩ := h
  refine ⟨by omega, ext ?_⟩
  rw [ext_word, e, bytesOf_list]; simp
theorem fr_of {s : ByteArray} {a : Nat} {t : List UInt8} (ht : t.length ≤ 1000) (h : s.extract a (a + (frB t).length) = Num.bytesOf (frB t)) : IsFr (s.data.toList.drop a) t := by
  have e := congrArg (fun x => x.data.toList) h
  simp only [ext_word, bytesOf_list] at e
  have e2 := List.take_append_drop (frB t).length (s.data.toList.drop a)
  rw [e] at e2
  exact ⟨ht, _, e2.symm⟩
/-- what LogRead tells -/
def Out (s : ByteArray) (ts : List ByteArray) (n : Nat) : Prop := if s.size ≤ 100000 then Read s.data.toList ts n else ts = [] ∧ n = 0
theorem Out.uniq {s : ByteArray} {ts us : List ByteArray} {n m : Nat} (h : Out s ts n) (k : Out s us m) : ts = us ∧ n = m := by
  unfold Out at h k
  split at h
  · rw [if_pos (by assumption)] at k; exact h.uniq k
  · rw [if_neg (by assumption)] at k; exact ⟨h.1.trans k.1.symm, h.2.trans k.2.symm⟩
theorem out_of {s : ByteArray} {ts : List ByteArray} {n : Nat} (h : s.size ≤ 100000) (h1 : At s.data.toList ts n) (h2 : ∀ t, ¬ IsFr (s.data.toList.drop n) t) : Out s ts n := by
  unfold Out; rw [if_pos h]; exact ⟨h1, h2⟩
theorem not_nil {F : ByteArray} (h : 1 ≤ F.size) : ¬ F.toList = [] ∧ F.toList.isEmpty = false := by
  have : ¬ F.toList = [] := by
    intro e
    have h2 : F = ⟨#[]⟩ := Txt.txt_ext (by rw [e, Lib.toList_data])
    rw [h2] at h
    exact absurd h (by decide)
  exact ⟨this, by simpa using this⟩
theorem newOneT (w : World) (x : ByteArray) (t : TypeId) : ∀ j y, [x][j]? = some y → (w.alloc (.cells #[.string x] t)).cell? ⟨w.heap.size, j, none⟩ = some (.string y) := by
  intro j y hy
  have e1 := (MapKept.heap_alloc w (.cells #[.string x] t)).1
  match j, hy with
  | 0, hy => obtain rfl : x = y := by simpa using hy
             simp only [World.cell?]; rw [e1]; rfl
theorem drop_end (s : ByteArray) : ∀ t, ¬ IsFr (s.data.toList.drop s.size) t := by
  rw [List.drop_eq_nil_of_le (by rw [toL]; exact Nat.le_refl _)]
  exact no_nil

set_option maxRecDepth 4000 in
set_option maxHeartbeats 4000000 in
/-- spec.LogRead -/
theorem readS (s : ByteArray) (w : World) (hs : s.size ≤ maxLen) : Calls Tryd.prog 14 #[.string s] w fun e w' => ∃ v ts n, e = .returned (.tuple #[v, .int .i64 (n : Nat)]) ∧ TN w' w.heap.size v ts ∧ Out s ts n ∧ Below w.heap.size w w' := by
  have hs' := hs
  unfold maxLen at hs'
  have T0 := hide (TN.new w w.heap.size (Nat.le_refl _))
  have hb0 : Below w.heap.size w (w.alloc (.cells #[] 9)) := (Below.refl _ _).alloc (Nat.le_refl _) _
  obtain ⟨w1, hw1⟩ : ∃ w1, w.alloc (.cells #[] 9) = w1 := ⟨_, rfl⟩
  rw [hw1] at T0 hb0
  by_cases hbig : 100000 < s.size
  · have HO : Hid (Out s [] 0) := hide (by unfold Out; rw [if_neg (by omega)]; exact ⟨rfl, rfl⟩)
    go_enter Tryd.func14, Tryd.ntmps14
    go_wp2_with (fail)
    clear hw1
    have hp : 0 < s.size := by omega
    go_loopw [4, 5] (fun t4 t5 wr => t5 = .int .i64 0 ∧ t4 = .slice (some ⟨w.heap.size, 0, none⟩) 0 0 ∧ wr = w1) (fun _ t5 _ => 0)
    case atStart => exact ⟨rfl, rfl, rfl⟩
    case round =>
      obtain ⟨rfl, rfl, rfl⟩ := hrel
      go_wp2_with (fail)
      go_ret2
      exact ⟨_, [], 0, rfl, unhide T0, unhide HO, hb0⟩
  have HST := hide (drop_end s)
  go_enter Tryd.func14, Tryd.ntmps14
  go_wp2_with (fail)
  clear hw1
  have HAT0 := hide (At.start s.data.toList)
  go_loopw [4, 5] (fun t4 t5 wr => ∃ (ts : List ByteArray) (g c a : Nat), t5 = .int .i64 a ∧ t4 = .slice (some ⟨g, 0, none⟩) ts.length c ∧ a ≤ s.size ∧ w.heap.size ≤ g ∧ Hid (At s.data.toList ts a) ∧ Hid (TN wr w.heap.size (.slice (some ⟨g, 0, none⟩) ts.length c) ts) ∧ Below w.heap.size w wr) (fun _ t5 _ => s.size - (intOf t5).toNat)
  case atStart => exact ⟨[], w.heap.size, 0, 0, rfl, rfl, by omega, Nat.le_refl _, HAT0, T0, hb0⟩
  case round =>
    obtain ⟨ts, g, c, a, rfl, rfl, ha, hg, hat, ht, hb⟩ := hrel
    clear T0 hb0 HAT0
    by_cases hlt : a < s.size
    · go_wp2_with (fail)
      refine (num9 s a wr ha (by omega)).mono ?_
      rintro e w2 ⟨n, k, rfl, hn1, hb2⟩
      have hkl := hn1.2.2.2.1
      have hnb := hn1.1
      have hnb2 := hn1.2.1
      have HN1 := hide hn1
      clear hn1
      go_wp2_with (fail)
      refine (num9 s k w2 hkl (by omega)).mono ?_
      rintro e w3 ⟨q, m, rfl, hn2, hb3⟩
      have hml := hn2.2.2.2.1
      have hqb := hn2.1
      have HST2 := hide (fun h => no_stop1 (unhide HN1) hn2 h)
      have HN2 := hide hn2
      clear hn2
      by_cases c1 : n < 0
      · have hST := unhide HST2 (.inl c1)
        clear HST2 HN1 HN2
        go_wp2_with (fail)
        go_ret2
        exact ⟨_, ts, a, rfl, (unhide ht).below (below_trans hb2 hb3), out_of (by omega) (unhide hat) hST, hb.trans ((hb2.mono hb.size).trans (hb3.mono (Nat.le_trans hb.size hb2.size)))⟩
      by_cases c2 : q < 0
      · have hST := unhide HST2 (.inr (.inl c2))
        clear HST2 HN1 HN2
        go_wp2_with (fail)
        go_ret2
        exact ⟨_, ts, a, rfl, (unhide ht).below (below_trans hb2 hb3), out_of (by omega) (unhide hat) hST, hb.trans ((hb2.mono hb.size).trans (hb3.mono (Nat.le_trans hb.size hb2.size)))⟩
      by_cases c3 : (s.size : Int) - m < n
      · have hST := unhide HST2 (.inr (.inr c3))
        clear HST2 HN1 HN2
        go_wp2_with (fail)
        go_ret2
        exact ⟨_, ts, a, rfl, (unhide ht).below (below_trans hb2 hb3), out_of (by omega) (unhide hat) hST, hb.trans ((hb2.mono hb.size).trans (hb3.mono (Nat.le_trans hb.size hb2.size)))⟩
      obtain ⟨nn, rfl⟩ := Int.eq_ofNat_of_zero_le (show 0 ≤ n by omega)
      have hmn : m + nn ≤ s.size := by omega
      have HST3 := hide (no_stop2 (unhide HN1) (unhide HN2))
      clear HST2 HN1 HN2
      have hxs : (s.extract m (m + nn)).size = nn := by rw [ByteArray.size_extract]; omega
      have hfc := hide (frameS (s.extract m (m + nn)))
      have hmp : m ≤ m + nn := by omega
      have hpz : (m : Int) + (nn : Int) = ((m + nn : Nat) : Int) := by omega
      generalize hp : m + nn = p at *
      generalize hx : s.extract m p = x at *
      have HP := hide hp; clear hp
      go_wp2_with (fail)
      refine (unhide hfc _ (by unfold maxLen; omega)).mono ?_
      rintro e w4 ⟨rfl, hb4⟩
      have hb34 := below_trans hb2 (below_trans hb3 hb4)
      have ht4 := hide ((unhide ht).below hb34)
      have hbw := hb.trans (hb34.mono hb.size)
      clear ht hb2 hb3 hb4 hfc hb34 hb
      by_cases hx1 : x.size ≤ 1000
      · have hxl : x.data.toList.length ≤ 1000 := by rw [toL]; exact hx1
        rw [frT_of hxl]
        have hF4 := frB_pos x.data.toList
        have hF5 := frB_len hxl
        have hFs := bytesOf_size (frB x.data.toList)
        by_cases hfr : IsFr (s.data.toList.drop a) x.data.toList
        · obtain ⟨t1, t2⟩ := fr_there hfr
          have hst := hide ((unhide hat).step hfr)
          generalize (frB x.data.toList).length = fl at *
          generalize hF : Num.bytesOf (frB x.data.toList) = F at *
          have HF := hide hF; clear hF
          obtain ⟨hFn, hFi⟩ := not_nil (F := F) (by omega)
          have hfa : (fl : Int) ≤ (s.size : Int) - (a : Int) := by omega
          have hae : (a : Int) + (fl : Int) = ((a + fl : Nat) : Int) := by omega
          have hage : a ≤ a + fl := by omega
          generalize a + fl = e at *
          clear HST3 hfr hat
          have hlc := At.count (unhide hst)
          rw [toL] at hlc
          simp only [List.length_append, List.length_singleton] at hlc
          have hz4 := hbw.size
          have HLC : Hid (ts.length + [x].length ≤ 4000000) := hide (by simp; omega)
          have HZ4 : Hid (w.heap.size ≤ (w4.alloc (.cells #[.string x] 9)).heap.size) := hide (by simp; omega)
          have HBW := hide (fun (w' : World) (q : Option Nat) (h : w4.grownBy w' q) (hq : ∀ k, q = some k → w.heap.size ≤ k) => hbw.grown h hz4 hq)
          clear hlc hz4 hbw
          go_wp2_with (first
            | (at_builtin
               refine listAppT _ rfl _ _ rfl w.heap.size w4.heap.size 1 1 ts.length (.slice (some ⟨g, 0, none⟩) ts.length c) ts [x] rfl rfl rfl ((unhide ht4).below ((Below.refl _ _).alloc (Nat.le_refl _) _)) rfl (newOneT w4 x _) (by simp) (unhide HLC) (unhide HZ4) ?_
               intro g2 c2 w5 ht5 hg5 hl5
               have hb5 := hide (unhide HBW w5 _ (grown_trans (World.grownBy_alloc w4 _ _) hg5) (fun k e => by cases e; exact hg))
               have T5 := hide ht5
               clear ht5 hg5)
            | fail)
          have hlt2 : a < e := by omega
          exact ⟨⟨ts ++ [x], g2, c2, e, rfl, by simp, t1, ((unhide T5).lt g2 rfl).1, hst, by simpa using T5, unhide hb5⟩, by simp [intOf]; omega⟩
        · have hST := hide (unhide HST3 hfr)
          have hno : a + (frB x.data.toList).length ≤ s.size → s.extract a (a + (frB x.data.toList).length) ≠ Num.bytesOf (frB x.data.toList) := fun _ e => hfr (fr_of hxl e)
          generalize (frB x.data.toList).length = fl at *
          generalize hF : Num.bytesOf (frB x.data.toList) = F at *
          clear hF HST3 hfr
          obtain ⟨hFn, hFi⟩ := not_nil (F := F) (by omega)
          by_cases hl : (s.size : Int) - (a : Int) < (fl : Int)
          · clear hno
            go_wp2_with (fail)
            go_ret2
            exact ⟨_, ts, a, rfl, unhide ht4, out_of (by omega) (unhide hat) (unhide hST), hbw⟩
          · have hno2 := txt_ne (hno (by omega))
            have hae : (a : Int) + (fl : Int) = ((a + fl : Nat) : Int) := by omega
            have hage : a ≤ a + fl := by omega
            have hel : a + fl ≤ s.size := by omega
            have hfa : (fl : Int) ≤ (s.size : Int) - (a : Int) := by omega
            clear hno
            generalize a + fl = e at *
            go_wp2_with (fail)
            go_ret2
            exact ⟨_, ts, a, rfl, unhide ht4, out_of (by omega) (unhide hat) (unhide hST), hbw⟩
      · rw [frT_no (by rw [toL]; exact hx1)]
        have hST := unhide HST3 (fun h => hx1 (by rw [← toL]; exact h.1))
        have hFe : (Num.bytesOf [] : ByteArray) = ⟨#[]⟩ := rfl
        rw [hFe]
        clear HST3
        go_wp2_with (fail)
        go_ret2
        exact ⟨_, ts, a, rfl, unhide ht4, out_of (by omega) (unhide hat) hST, hbw⟩
    · obtain rfl : a = s.size := by omega
      go_wp2_with (fail)
      go_ret2
      exact ⟨_, ts, s.size, rfl, unhide ht, out_of (by omega) (unhide hat) (unhide HST), hb⟩
end Go.Proofs.YtpamdnkngedmaaaDoor.Fr
