/-
  spec.l9Num: a number up to a space, and where it ends.
-/
import Derived.Test.YtpamdnkngedmaaaDoorFrS
import Derived.Test.YtpamdnkngedmaaaDoorNumC
namespace Go.Proofs.YtpamdnkngedmaaaDoor.Fr
set_option linter.unusedVariables false
open Go.RowKit

theorem word_end {l w r : List UInt8} {j : Nat} (hl : l = w ++ 32 :: r) (hw : ∀ x ∈ w, x ≠ 32) (hn : w.length ≤ 5) (hj : ∀ i, i < j → l[i]? ≠ some 32) (hj6 : j ≤ 6) (he : l.length ≤ j ∨ j = 6 ∨ l[j]? = some 32) : j = w.length ∧ l.take j = w := by
  have h32 : l[w.length]? = some 32 := by rw [hl]; simp
  have hle : j ≤ w.length := by
    refine Nat.le_of_not_lt fun h => hj _ h h32
  have hge : w.length ≤ j := by
    refine Nat.le_of_not_lt fun h => ?_
    rcases he with he | he | he
    · rw [hl] at he; simp at he; omega
    · omega
    · rw [hl, List.getElem?_append_left h] at he
      exact hw _ (List.mem_of_getElem? he) rfl
  have e : j = w.length := by omega
  refine ⟨e, ?_⟩
  rw [hl, e]; simp
theorem at_drop (s : ByteArray) (a j : Nat) (h : a + j < s.size) : (s.data.toList.drop a)[j]? = some s[a + j] := by
  rw [List.getElem?_drop, by_at h]
theorem ext_list (s : ByteArray) (f j : Nat) : (s.extract f j).data.toList = (s.data.toList.take j).drop f := by
  simp [ByteArray.data_extract, List.drop_take]
theorem ext_word (s : ByteArray) (a j : Nat) : (s.extract a (a + j)).data.toList = (s.data.toList.drop a).take j := by
  rw [ext_list, List.drop_take]
  congr 1; omega
/-- what l9Num tells of a text from a place on -/
def Num9 (s : ByteArray) (a : Nat) (n : Int) (k : Nat) : Prop :=
  -1 ≤ n ∧ n ≤ 100000000000000000 ∧ a ≤ k ∧ k ≤ s.size ∧ ∀ (m : Int) (r : List UInt8), 0 ≤ m → m ≤ 65520 → s.data.toList.drop a = Lib.itoa m ++ 32 :: r → n = m ∧ k = a + (Lib.itoa m).length + 1
theorem itoa_five {m : Int} (h0 : 0 ≤ m) (h1 : m ≤ 65520) : (Lib.itoa m).length ≤ 5 := by
  obtain ⟨k, rfl⟩ := Int.eq_ofNat_of_zero_le h0
  rw [Lib.itoa_nonneg]
  exact Num.ddLen 4 k (by omega)

theorem num9_no {s : ByteArray} {a j : Nat} (ha : a ≤ s.size) (hj : ∀ i, i < j → (s.data.toList.drop a)[i]? ≠ some 32) (hj6 : j ≤ 6) (he : (s.data.toList.drop a).length ≤ j ∨ j = 6 ∨ (s.data.toList.drop a)[j]? = some 32) (hno : (s.data.toList.drop a)[j]? ≠ some 32) : Num9 s a (-1) a := by
  refine ⟨by omega, by omega, Nat.le_refl _, ha, fun m r h0 h1 hl => absurd ?_ hno⟩
  obtain ⟨e, -⟩ := word_end hl (no32 m) (itoa_five h0 h1) hj hj6 he
  rw [hl, e]; simp
theorem num9_yes {s : ByteArray} {a j : Nat} {n : Int} (hj : ∀ i, i < j → (s.data.toList.drop a)[i]? ≠ some 32) (hj6 : j ≤ 6) (hyes : (s.data.toList.drop a)[j]? = some 32) (hn : Num.numL ((s.data.toList.drop a).take j) = some n) (h0 : 0 ≤ n) : Num9 s a n (a + j + 1) := by
  have hb := Num.numL_bound hn
  have hl := (List.getElem?_eq_some_iff.1 hyes).1
  rw [List.length_drop, toL] at hl
  refine ⟨by omega, by omega, by omega, by omega, fun m r h0 h1 hl => ?_⟩
  obtain ⟨e, e2⟩ := word_end hl (no32 m) (itoa_five h0 h1) hj hj6 (.inr (.inr hyes))
  rw [e2, Num.numL_itoa (by unfold Num.numOk; omega)] at hn
  exact ⟨(Option.some.inj hn).symm, by omega⟩
theorem num9_bad {s : ByteArray} {a j : Nat} (ha : a ≤ s.size) (hj : ∀ i, i < j → (s.data.toList.drop a)[i]? ≠ some 32) (hj6 : j ≤ 6) (hyes : (s.data.toList.drop a)[j]? = some 32) (hn : ∀ n, Num.numL ((s.data.toList.drop a).take j) = some n → n < 0) : Num9 s a (-1) a := by
  refine ⟨by omega, by omega, Nat.le_refl _, ha, fun m r h0 h1 hl => ?_⟩
  obtain ⟨e, e2⟩ := word_end hl (no32 m) (itoa_five h0 h1) hj hj6 (.inr (.inr hyes))
  rw [e2] at hn
  have := hn m (Num.numL_itoa (by unfold Num.numOk; omega))
  omega

set_option maxHeartbeats 2000000 in
/-- spec.l9Num -/
theorem num9 (s : ByteArray) (a : Nat) (w : World) (ha : a ≤ s.size) (hs : s.size ≤ 1000000) : Calls Tryd.prog 28 #[.string s, .int .i64 a] w fun e w' => ∃ (n : Int) (k : Nat), e = .returned (.tuple #[.int .i64 n, .int .i64 k]) ∧ Num9 s a n k ∧ Below w.heap.size w w' := by
  have hl0 : (s.data.toList.drop a).length = s.size - a := by rw [List.length_drop, toL]
  go_enter Tryd.func28, Tryd.ntmps28
  go_wp2
  go_loop [6] (fun t6 => ∃ k : Nat, a ≤ k ∧ k ≤ s.size ∧ k ≤ a + 6 ∧ t6 = .int .i64 k ∧ Hid (∀ i, i < k - a → (s.data.toList.drop a)[i]? ≠ some 32)) (fun t6 => s.size - (intOf t6).toNat)
  case atStart => exact ⟨a, by omega, by omega, by omega, rfl, hide (fun i hi => by omega)⟩
  case round =>
    obtain ⟨k, hk, hks, hk6, rfl, hn⟩ := hrel
    have HL := hide hl0
    clear hl0
    by_cases hlt : k < s.size
    · have hat := at_drop s a (k - a) (by omega)
      have ek : a + (k - a) = k := by omega
      simp only [ek] at hat
      have HAT := hide hat
      clear hat
      by_cases hb : s[k] = 32
      · have hbn : (s[k].toNat : Int) = 32 := by rw [hb]; rfl
        have hbb : ((s[k].toNat : Int) != 32) = false := by simpa using hbn
        have EX := hide (ext_word s a (k - a))
        rw [ek] at EX
        have hxs : (s.extract a k).size ≤ 2000000 := by rw [ByteArray.size_extract]; omega
        have HY : Hid (∀ n, Num.numL (s.extract a k).data.toList = some n → 0 ≤ n → Num9 s a n (k + 1)) := hide (fun n h1 h2 => by
          have := num9_yes (unhide hn) (by omega) (by rw [unhide HAT, hb]) (by rw [← unhide EX]; exact h1) h2
          rwa [ek] at this)
        have HN : Hid ((∀ n, Num.numL (s.extract a k).data.toList = some n → n < 0) → Num9 s a (-1) a) := hide (fun h1 =>
          num9_bad ha (unhide hn) (by omega) (by rw [unhide HAT, hb]) (by rw [← unhide EX]; exact h1))
        have hcall := Num.numC (s.extract a k) w hxs
        generalize hx : s.extract a k = x at *
        have HC := hide hcall
        clear hcall HL HAT EX hn
        by_cases h6 : k < a + 6
        · go_wp2_with (fail)
          refine (unhide HC).mono ?_
          rintro e w1 ⟨rfl, hb1⟩
          rcases hN : Num.numL x.data.toList with _ | n
          · rw [Num.numV_none hN]
            have hr := unhide HN (fun n h => by rw [hN] at h; cases h)
            clear HN HY
            go_wp2
            go_ret2
            exact ⟨-1, a, rfl, hr, hb1⟩
          · rw [Num.numV_some hN]
            by_cases h0 : n < 0
            · have hr := unhide HN (fun m h => by rw [hN] at h; cases h; exact h0)
              clear HN HY
              go_wp2
              go_ret2
              exact ⟨-1, a, rfl, hr, hb1⟩
            · have hr := unhide HY n hN (by omega)
              clear HN HY
              go_wp2
              go_ret2
              exact ⟨n, k + 1, by simp, hr, hb1⟩
        · go_wp2_with (fail)
          refine (unhide HC).mono ?_
          rintro e w1 ⟨rfl, hb1⟩
          rcases hN : Num.numL x.data.toList with _ | n
          · rw [Num.numV_none hN]
            have hr := unhide HN (fun n h => by rw [hN] at h; cases h)
            clear HN HY
            go_wp2
            go_ret2
            exact ⟨-1, a, rfl, hr, hb1⟩
          · rw [Num.numV_some hN]
            by_cases h0 : n < 0
            · have hr := unhide HN (fun m h => by rw [hN] at h; cases h; exact h0)
              clear HN HY
              go_wp2
              go_ret2
              exact ⟨-1, a, rfl, hr, hb1⟩
            · have hr := unhide HY n hN (by omega)
              clear HN HY
              go_wp2
              go_ret2
              exact ⟨n, k + 1, by simp, hr, hb1⟩
      · have hbn : (s[k].toNat : Int) ≠ 32 := by
          intro e; apply hb; apply UInt8.toNat_inj.1; show _ = 32; omega
        have hbb : ((s[k].toNat : Int) != 32) = true := by simpa using hbn
        by_cases h6 : k < a + 6
        · have hn' : Hid (∀ i, i < k + 1 - a → (s.data.toList.drop a)[i]? ≠ some 32) := hide (fun i hi => by
            by_cases e : i = k - a
            · rw [e, unhide HAT]; exact fun e => hb (Option.some.inj e)
            · exact unhide hn i (by omega))
          clear HL HAT hn
          go_wp2_with (fail)
          exact ⟨⟨k + 1, by omega, by omega, by omega, by simp, hn'⟩, by simp [intOf]; omega⟩
        · have HN : Hid (Num9 s a (-1) a) := hide (num9_no (j := k - a) ha (unhide hn) (by omega) (.inr (.inl (by omega))) (by rw [unhide HAT]; exact fun e => hb (Option.some.inj e)))
          clear HL HAT hn
          go_wp2_with (fail)
          go_ret2
          exact ⟨-1, a, rfl, unhide HN, Below.refl _ _⟩
    · have HN : Hid (Num9 s a (-1) a) := hide (num9_no (j := k - a) ha (unhide hn) (by omega) (.inl (by rw [unhide HL]; omega)) (by rw [List.getElem?_eq_none (by rw [unhide HL]; omega)]; simp))
      clear HL hn
      obtain rfl : k = s.size := by omega
      go_wp2_with (fail)
      go_ret2
      exact ⟨-1, a, rfl, unhide HN, Below.refl _ _⟩
end Go.Proofs.YtpamdnkngedmaaaDoor.Fr
