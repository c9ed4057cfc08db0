/-
  CoinRead, the document's: the amount whose text it is, if there is one.
-/
import Derived.Test.YtlgmelmagciopaaDoorReadI
import Derived.Test.YtlgmelmagciopaaDoorFind
namespace Go.Proofs.YtlgmelmagciopaaDoor.Text
set_option linter.unusedVariables false
open Go.RowKit Coin
open Dec (below2)

def isDig (b : UInt8) : Prop := 48 ≤ b.toNat ∧ b.toNat ≤ 57

/-- a text of an amount: digits, a point, two digits -/
theorem shape {s : List UInt8} {v : Int} (neg : Bool) (h : IsText (if neg = true then 45 :: s else s) v) (hn : neg = false → s.head? ≠ some 45) : (v < 0 ↔ neg = true) ∧ ∃ D c1 c2, s = D ++ [46, c1, c2] ∧ (∀ b ∈ D, isDig b) ∧ isDig c1 ∧ isDig c2 ∧ 1 ≤ D.length ∧ D.length ≤ 14 ∧ Lib.decFrom 0 (D ++ [c1, c2]) = some v.natAbs := by
  obtain ⟨ho, ht⟩ := h
  have hb := okB_iff.1 ho
  have e := textL_eq ho
  rw [ht] at e
  have hv := text_value v.natAbs
  have hl := digLen 13 (v.natAbs / 100) (by omega)
  have hd := digits_are _ _ (Nat.le_refl (v.natAbs / 100))
  obtain ⟨c, r, hc, hc1, hc2⟩ := digits_cons (v.natAbs / 100)
  have one : ∀ k, k < 10 → isDig (UInt8.ofNat (48 + k)) := by
    intro k hk
    have e : (UInt8.ofNat (48 + k)).toNat = 48 + k := by simp; omega
    unfold isDig; omega
  have key : s = Lib.decDigits (v.natAbs / 100) ++ [46, UInt8.ofNat (48 + v.natAbs / 10 % 10), UInt8.ofNat (48 + v.natAbs % 10)] ∧ (v < 0 ↔ neg = true) := by
    unfold sgn at e
    by_cases hs : v < 0
    · rw [if_pos hs] at e
      cases neg
      · simp at e
        exact absurd (by rw [e]; rfl) (hn rfl)
      · simp only [if_true, List.cons_append, List.nil_append, List.cons.injEq, true_and] at e
        exact ⟨e, by simp [hs]⟩
    · rw [if_neg hs] at e
      cases neg
      · simp only [Bool.false_eq_true, if_false, List.nil_append] at e
        exact ⟨e, by simp; omega⟩
      · rw [hc] at e
        simp only [if_true, List.nil_append, List.cons_append, List.cons.injEq] at e
        rw [← e.1] at hc1
        exact absurd hc1 (by decide)
  refine ⟨key.2, Lib.decDigits (v.natAbs / 100), _, _, key.1, hd, one _ (by omega), one _ (by omega), ?_, by omega, hv⟩
  rw [hc]; simp

/-- the digits among the first i bytes, the one at k left out -/
def strip (s : List UInt8) (k i : Nat) : List UInt8 := (s.take k).take i ++ (s.drop (k + 1)).take (i - (k + 1))

theorem strip_zero (s : List UInt8) (k : Nat) : strip s k 0 = [] := by simp [strip]
theorem strip_at (s : List UInt8) (k : Nat) : strip s k (k + 1) = strip s k k := by
  unfold strip
  rw [List.take_take, List.take_take]
  simp
theorem strip_lo {s : List UInt8} {k i : Nat} (h : i < k) (b : UInt8) (hb : s[i]? = some b) : strip s k (i + 1) = strip s k i ++ [b] := by
  unfold strip
  have e1 : i + 1 - (k + 1) = 0 := by omega
  have e2 : i - (k + 1) = 0 := by omega
  rw [e1, e2, List.take_take, List.take_take, Nat.min_eq_left (by omega), Nat.min_eq_left (by omega), List.take_add_one, hb]
  simp
theorem strip_hi {s : List UInt8} {k i : Nat} (h : k < i) (b : UInt8) (hb : s[i]? = some b) : strip s k (i + 1) = strip s k i ++ [b] := by
  unfold strip
  rw [List.take_take, List.take_take, Nat.min_eq_right (by omega), Nat.min_eq_right (by omega)]
  have e1 : i + 1 - (k + 1) = i - (k + 1) + 1 := by omega
  have e2 : (s.drop (k + 1))[i - (k + 1)]? = some b := by rw [List.getElem?_drop, show k + 1 + (i - (k + 1)) = i by omega]; exact hb
  rw [e1, List.take_add_one, e2]
  simp
theorem strip_len (s : List UInt8) (k i : Nat) : (strip s k i).length ≤ i ∧ (k < i → (strip s k i).length ≤ i - 1) := by
  unfold strip
  simp only [List.length_append, List.length_take, List.length_drop]
  omega
theorem strip_all {D : List UInt8} {c1 c2 : UInt8} : strip (D ++ [46, c1, c2]) D.length (D.length + 3) = D ++ [c1, c2] := by
  unfold strip
  simp [List.take_of_length_le]
theorem dec_bound {l : List UInt8} {n : Nat} (h : Lib.decFrom 0 l = some n) (hl : l.length ≤ 17) : n < 100000000000000000 := by
  have h1 := Lib.decFrom_lt l 0 n h
  have h2 : 10 ^ l.length ≤ 10 ^ 17 := Nat.pow_le_pow_right (by omega) hl
  omega
theorem dec_more {l : List UInt8} {n : Nat} {b : UInt8} (h : Lib.decFrom 0 l = some n) (hb : isDig b) : Lib.decFrom 0 (l ++ [b]) = some (n * 10 + (b.toNat - 48)) := by
  rw [decFrom_append, h]
  simp only [Option.bind_some, Lib.decFrom, Lib.digitVal]
  unfold isDig at hb
  rw [if_pos hb]
theorem find_shape {D : List UInt8} {c1 c2 : UInt8} {r : Int} (hD : ∀ b ∈ D, isDig b) (hf : Find.IsFind (D ++ [46, c1, c2]) 46 r) : r = D.length := by
  have hat : (D ++ [46, c1, c2])[D.length]? = some 46 := by simp
  rcases hf with ⟨_, h⟩ | ⟨k, rfl, hk, hlt⟩
  · exact absurd rfl (h 46 (by simp))
  · by_cases h1 : k < D.length
    · rw [List.getElem?_append_left h1] at hk
      have hm := hD 46 (List.mem_of_getElem? hk)
      unfold isDig at hm
      exact absurd hm.1 (by decide)
    · by_cases h2 : D.length < k
      · exact absurd hat (hlt _ h2)
      · have : k = D.length := by omega
        rw [this]
theorem read_iff (t : List UInt8) (v : Int) : readOf t = some v ↔ IsText t v := ⟨text_of_read, read_of_text⟩
theorem none_of {R : Option Int} {P : Int → Prop} (h : ∀ v, R = some v ↔ P v) (hn : ∀ v, ¬ P v) : R = none := by
  cases R with
  | none => rfl
  | some v => exact absurd ((h v).1 rfl) (hn v)

theorem dig_at {D : List UInt8} {c1 c2 b : UInt8} {j : Nat} (hD : ∀ x ∈ D, isDig x) (h1 : isDig c1) (h2 : isDig c2) (hb : (D ++ [46, c1, c2])[j]? = some b) (hj : j ≠ D.length) : isDig b := by
  by_cases h : j < D.length
  · rw [List.getElem?_append_left h] at hb
    exact hD _ (List.mem_of_getElem? hb)
  · rw [List.getElem?_append_right (by omega)] at hb
    obtain ⟨i, hi⟩ : ∃ i, j - D.length = i + 1 := ⟨j - D.length - 1, by omega⟩
    rw [hi] at hb
    match i, hb with
    | 0, hb => simp at hb; rw [← hb]; exact h1
    | 1, hb => simp at hb; rw [← hb]; exact h2
    | i + 2, hb => simp at hb
theorem dec_bound18 {l : List UInt8} {n : Nat} (h : Lib.decFrom 0 l = some n) (hl : l.length ≤ 18) : n < 1000000000000000000 := by
  have h1 := Lib.decFrom_lt l 0 n h
  have h2 : 10 ^ l.length ≤ 10 ^ 18 := Nat.pow_le_pow_right (by omega) hl
  omega

set_option maxHeartbeats 4000000 in
theorem readS_pos (S : ByteArray) (w : World) (hs : S.size ≤ 2000000) (hn : S.data.toList.head? ≠ some 45) :
    Calls Tryd.prog 15 #[.string S] w fun e w' => e = .returned (.tuple #[.int .i64 ((readOf S.data.toList).getD 0), .bool (readOf S.data.toList).isSome]) ∧ Below w.heap.size w w' := by
  have HN : Hid (S.data.toList.head? ≠ some 45) := hn
  have HR : Hid (∀ v, readOf S.data.toList = some v ↔ IsText (if false = true then 45 :: S.data.toList else S.data.toList) v) := fun v => by simpa using read_iff S.data.toList v
  have HO : Hid (S.data.toList = (if false = true then 45 :: S.data.toList else S.data.toList)) := by show _ = _; simp
  have HS : Hid (S.data.toList.length = S.size) := Array.length_toList
  generalize readOf S.data.toList = R at *
  by_cases h0 : S.size = 0
  · have hR : R = none := none_of (unhide HR) (fun v hv => by
      obtain ⟨_, D, c1, c2, e, _⟩ := shape false hv (fun _ => unhide HN)
      have := congrArg List.length e
      rw [unhide HS, h0] at this; simp at this)
    subst hR
    go_enter Tryd.func15, Tryd.ntmps15
    go_wp2_with fail
    refine (Find.find S 46 _ (by unfold maxLen; omega)).mono ?_
    rintro e w1 ⟨r, rfl, hf, rfl⟩
    have hr : r = -1 := by
      rcases hf with ⟨h, _⟩ | ⟨k, rfl, hk, _⟩
      · exact h
      · have := (List.getElem?_eq_some_iff.1 hk).1
        rw [unhide HS, h0] at this; omega
    subst hr
    go_wp2
    go_ret2
    exact ⟨rfl, Below.refl _ _⟩
  · have h0' : 0 < S.size := by omega
    have h45 : ((S[0].toNat : Int) == 45) = false := by
      rw [beq_eq_false_iff_ne]; intro e
      apply hn
      have := Find.at_ S 0 h0'
      rw [List.head?_eq_getElem?, this]
      exact congrArg some (UInt8.toNat_inj.1 (by show _ = 45; omega))
    clear hn h0
    go_enter Tryd.func15, Tryd.ntmps15
    -- S: the text without its sign
    go_wp2_with fail
    refine (Find.find S 46 _ (by unfold maxLen; omega)).mono ?_
    rintro e w1 ⟨r, rfl, hf, rfl⟩
    have HF := hide hf; clear hf
    by_cases x1 : r < 1
    · have hR : R = none := none_of (unhide HR) (fun v hv => by
        obtain ⟨_, D, c1, c2, e, hD, _, _, l1, _, _⟩ := shape false hv (fun _ => unhide HN)
        have := find_shape hD (e ▸ unhide HF); omega)
      subst hR
      go_wp2
      go_ret2
      exact ⟨rfl, Below.refl _ _⟩
    · by_cases x2 : r = (S.size : Int) - 3
      · have x2' : (r != (S.size : Int) - 3) = false := by simpa using x2
        by_cases x3 : 19 < S.size
        · have hR : R = none := none_of (unhide HR) (fun v hv => by
            obtain ⟨_, D, c1, c2, e, hD, _, _, l1, l2, _⟩ := shape false hv (fun _ => unhide HN)
            have := congrArg List.length e
            rw [unhide HS] at this
            simp at this; omega)
          subst hR
          clear x2
          go_wp2
          go_ret2
          exact ⟨rfl, Below.refl _ _⟩
        · obtain ⟨k, rfl⟩ := Int.eq_ofNat_of_zero_le (show 0 ≤ r by omega)
          have hk1 : 1 ≤ k := by omega
          have hk2 : k + 3 = S.size := by omega
          have hk3 : k ≤ 16 := by omega
          have HK := hide hk2
          clear x1 x2 hk2
          have hk4 : k < S.size := by have := unhide HK; omega
          go_wp2
          go_loop [7, 8] (fun n i => ∃ (m j : Nat), j ≤ S.size ∧ i = .int .i64 j ∧ n = .int .i64 m ∧ Hid (Lib.decFrom 0 (strip S.data.toList k j) = some m)) (fun _ i => S.size - (intOf i).toNat)
          case atStart => exact ⟨0, 0, Nat.zero_le _, rfl, rfl, by show _ = _; rw [strip_zero]; rfl⟩
          case round =>
            obtain ⟨m, j, hj, rfl, rfl, hm⟩ := hrel
            have hsl := strip_len S.data.toList k j
            by_cases hlt : j < S.size
            · by_cases hjk : j = k
              · subst hjk
                have hm0 : m < 100000000000000000 := dec_bound (unhide hm) (by omega)
                go_wp2
                refine ⟨⟨m, j + 1, by omega, by go_num, rfl, ?_⟩, by simp [intOf]; omega⟩
                show _ = _
                rw [strip_at]; exact unhide hm
              · have hjk' : (((j : Int)) != (k : Int)) = true := bne_iff_ne.2 (by omega)
                by_cases hd : isDig S[j]
                · have hd1 := hd.1
                  have hd2 := hd.2
                  have hm0 : m < 100000000000000000 := dec_bound (unhide hm) (by omega)
                  have hnx : Hid (Lib.decFrom 0 (strip S.data.toList k (j + 1)) = some (m * 10 + (S[j].toNat - 48))) := by
                    have hb := Find.at_ S j hlt
                    show _ = _
                    rcases Nat.lt_or_gt_of_ne hjk with h | h
                    · rw [strip_lo h _ hb]; exact dec_more (unhide hm) hd
                    · rw [strip_hi h _ hb]; exact dec_more (unhide hm) hd
                  clear hd hsl
                  go_wp2
                  refine ⟨⟨m * 10 + (S[j].toNat - 48), j + 1, by omega, by go_num, ?_, hnx⟩, by simp [intOf]; omega⟩
                  go_num
                · have hR : R = none := none_of (unhide HR) (fun v hv => by
                    obtain ⟨_, D, c1, c2, e, hD, d1, d2, l1, l2, _⟩ := shape false hv (fun _ => unhide HN)
                    have hfs := find_shape hD (e ▸ unhide HF)
                    have hb := Find.at_ S j hlt
                    apply hd
                    rw [e] at hb
                    exact dig_at hD d1 d2 hb (by omega))
                  subst hR
                  have hdd : S[j].toNat < 48 ∨ (¬ S[j].toNat < 48 ∧ 57 < S[j].toNat) := by unfold isDig at hd; omega
                  clear hd hsl
                  rcases hdd with hd1 | ⟨hd1, hd2⟩
                  · go_wp2
                    go_ret2
                    exact ⟨rfl, Below.refl _ _⟩
                  · go_wp2
                    go_ret2
                    exact ⟨rfl, Below.refl _ _⟩
            · obtain rfl : j = S.size := by omega
              have hm0 : m < 1000000000000000000 := dec_bound18 (unhide hm) (by omega)
              have hfin : Hid (∀ v, IsText (if false = true then 45 :: S.data.toList else S.data.toList) v → v = (m : Int)) := fun v hv => by
                obtain ⟨hsg, D, c1, c2, e, hD, d1, d2, l1, l2, hval⟩ := shape false hv (fun _ => unhide HN)
                have hfs := find_shape hD (e ▸ unhide HF)
                have hkD : k = D.length := by omega
                have h3 := unhide hm
                have h4 := unhide HS
                rw [← h4, e, hkD] at h3
                rw [show (D ++ [46, c1, c2]).length = D.length + 3 by simp, strip_all, hval] at h3
                have := Option.some.inj h3
                simp at hsg; omega
              clear hsl hm
              cases hok : okB ((m : Int))
              · have hR : R = none := none_of (unhide HR) (fun v hv => by
                  have e := unhide hfin v hv
                  have h1 := hv.1
                  rw [e, hok] at h1; cases h1)
                subst hR
                go_wp2_with (first | (go_at_call 13; refine (okS _ _).mono ?_; rintro e w' ⟨rfl, rfl⟩))
                go_ret2
                exact ⟨rfl, Below.refl _ _⟩
              · go_wp2_with (first | (go_at_call 13; refine (okS _ _).mono ?_; rintro e w' ⟨rfl, rfl⟩))
                refine (textS ((m : Int)) _).mono ?_
                rintro e w3 ⟨rfl, hb3⟩
                generalize hT : textL ((m : Int)) = T
                have HT := hide hT; clear hT
                go_wp2
                · have hne : (!T == S.toList) = true := by assumption
                  have hR : R = none := none_of (unhide HR) (fun v hv => by
                    have e := unhide hfin v hv
                    have h1 := hv.2
                    rw [e, unhide HT, ← unhide HO] at h1
                    rw [h1, Lib.toList_data] at hne; simp at hne)
                  go_ret2
                  exact ⟨by rw [hR]; rfl, hb3⟩
                · have heq : (!T == S.toList) = false := by assumption
                  have hR : R = some ((m : Int)) := (unhide HR _).2 ⟨hok, by
                    rw [unhide HT, ← unhide HO]; rw [Lib.toList_data] at heq; simpa using heq⟩
                  go_ret2
                  exact ⟨by rw [hR]; rfl, hb3⟩
      · have x2' : (r != (S.size : Int) - 3) = true := by simpa using x2
        have hR : R = none := none_of (unhide HR) (fun v hv => by
          obtain ⟨_, D, c1, c2, e, hD, _, _, l1, l2, _⟩ := shape false hv (fun _ => unhide HN)
          have hfs := find_shape hD (e ▸ unhide HF)
          have := congrArg List.length e
          rw [unhide HS] at this
          simp at this; omega)
        subst hR
        clear x2
        go_wp2
        go_ret2
        exact ⟨rfl, Below.refl _ _⟩

set_option maxHeartbeats 4000000 in
theorem readS_neg (X : ByteArray) (w : World) (hs : X.size ≤ 2000000) (hn : X.data.toList.head? = some 45) :
    Calls Tryd.prog 15 #[.string X] w fun e w' => e = .returned (.tuple #[.int .i64 ((readOf X.data.toList).getD 0), .bool (readOf X.data.toList).isSome]) ∧ Below w.heap.size w w' := by
  have h0' : 0 < X.size := by
    rcases Nat.eq_zero_or_pos X.size with h | h
    · have hl : X.data.toList.length = 0 := by rw [Array.length_toList]; exact h
      rw [List.length_eq_zero_iff.1 hl] at hn; cases hn
    · exact h
  have e0 : X[0] = 45 := by
    have := Find.at_ X 0 h0'
    rw [List.head?_eq_getElem?, this] at hn
    exact Option.some.inj hn
  have h45 : ((X[0].toNat : Int) == 45) = true := by rw [e0]; rfl
  clear e0
  obtain ⟨S, hS⟩ : ∃ S : ByteArray, X.extract 1 X.size = S := ⟨_, rfl⟩
  have hSl : S.data.toList = X.data.toList.drop 1 := by
    rw [← hS, Lib.extract_data]
    exact List.take_of_length_le (by rw [List.length_drop, Array.length_toList]; exact Nat.le_refl _)
  have hX : X.data.toList = 45 :: S.data.toList := by
    rw [hSl]
    cases hx : X.data.toList with
    | nil => rw [hx] at hn; cases hn
    | cons a b => rw [hx] at hn; simp at hn; simp [hn]
  have hsz : S.size + 1 = X.size := by
    have := congrArg List.length hX
    rw [Array.length_toList, List.length_cons, Array.length_toList] at this
    exact this.symm
  have hs1 : S.size ≤ 2000000 := by omega
  have HR : Hid (∀ v, readOf X.data.toList = some v ↔ IsText (if true = true then 45 :: S.data.toList else S.data.toList) v) := fun v => by
    have := read_iff X.data.toList v
    rw [this, hX]; simp
  have HO : Hid (X.data.toList = (if true = true then 45 :: S.data.toList else S.data.toList)) := by show _ = _; rw [hX]; simp
  have HS : Hid (S.data.toList.length = S.size) := Array.length_toList
  generalize readOf X.data.toList = R at *
  clear hn hX hSl hsz
  go_enter Tryd.func15, Tryd.ntmps15
  -- S: the text without its sign
  go_wp2_with fail
  refine (Find.find S 46 _ (by unfold maxLen; omega)).mono ?_
  rintro e w1 ⟨r, rfl, hf, rfl⟩
  have HF := hide hf; clear hf
  by_cases x1 : r < 1
  · have hR : R = none := none_of (unhide HR) (fun v hv => by
      obtain ⟨_, D, c1, c2, e, hD, _, _, l1, _, _⟩ := shape true hv (fun h => absurd h (by decide))
      have := find_shape hD (e ▸ unhide HF); omega)
    subst hR
    go_wp2
    go_ret2
    exact ⟨rfl, Below.refl _ _⟩
  · by_cases x2 : r = (S.size : Int) - 3
    · have x2' : (r != (S.size : Int) - 3) = false := by simpa using x2
      by_cases x3 : 19 < S.size
      · have hR : R = none := none_of (unhide HR) (fun v hv => by
          obtain ⟨_, D, c1, c2, e, hD, _, _, l1, l2, _⟩ := shape true hv (fun h => absurd h (by decide))
          have := congrArg List.length e
          rw [unhide HS] at this
          simp at this; omega)
        subst hR
        clear x2
        go_wp2
        go_ret2
        exact ⟨rfl, Below.refl _ _⟩
      · obtain ⟨k, rfl⟩ := Int.eq_ofNat_of_zero_le (show 0 ≤ r by omega)
        have hk1 : 1 ≤ k := by omega
        have hk2 : k + 3 = S.size := by omega
        have hk3 : k ≤ 16 := by omega
        have HK := hide hk2
        clear x1 x2 hk2
        have hk4 : k < S.size := by have := unhide HK; omega
        go_wp2
        go_loop [7, 8] (fun n i => ∃ (m j : Nat), j ≤ S.size ∧ i = .int .i64 j ∧ n = .int .i64 m ∧ Hid (Lib.decFrom 0 (strip S.data.toList k j) = some m)) (fun _ i => S.size - (intOf i).toNat)
        case atStart => exact ⟨0, 0, Nat.zero_le _, rfl, rfl, by show _ = _; rw [strip_zero]; rfl⟩
        case round =>
          obtain ⟨m, j, hj, rfl, rfl, hm⟩ := hrel
          have hsl := strip_len S.data.toList k j
          by_cases hlt : j < S.size
          · by_cases hjk : j = k
            · subst hjk
              have hm0 : m < 100000000000000000 := dec_bound (unhide hm) (by omega)
              go_wp2
              refine ⟨⟨m, j + 1, by omega, by go_num, rfl, ?_⟩, by simp [intOf]; omega⟩
              show _ = _
              rw [strip_at]; exact unhide hm
            · have hjk' : (((j : Int)) != (k : Int)) = true := bne_iff_ne.2 (by omega)
              by_cases hd : isDig S[j]
              · have hd1 := hd.1
                have hd2 := hd.2
                have hm0 : m < 100000000000000000 := dec_bound (unhide hm) (by omega)
                have hnx : Hid (Lib.decFrom 0 (strip S.data.toList k (j + 1)) = some (m * 10 + (S[j].toNat - 48))) := by
                  have hb := Find.at_ S j hlt
                  show _ = _
                  rcases Nat.lt_or_gt_of_ne hjk with h | h
                  · rw [strip_lo h _ hb]; exact dec_more (unhide hm) hd
                  · rw [strip_hi h _ hb]; exact dec_more (unhide hm) hd
                clear hd hsl
                go_wp2
                refine ⟨⟨m * 10 + (S[j].toNat - 48), j + 1, by omega, by go_num, ?_, hnx⟩, by simp [intOf]; omega⟩
                go_num
              · have hR : R = none := none_of (unhide HR) (fun v hv => by
                  obtain ⟨_, D, c1, c2, e, hD, d1, d2, l1, l2, _⟩ := shape true hv (fun h => absurd h (by decide))
                  have hfs := find_shape hD (e ▸ unhide HF)
                  have hb := Find.at_ S j hlt
                  apply hd
                  rw [e] at hb
                  exact dig_at hD d1 d2 hb (by omega))
                subst hR
                have hdd : S[j].toNat < 48 ∨ (¬ S[j].toNat < 48 ∧ 57 < S[j].toNat) := by unfold isDig at hd; omega
                clear hd hsl
                rcases hdd with hd1 | ⟨hd1, hd2⟩
                · go_wp2
                  go_ret2
                  exact ⟨rfl, Below.refl _ _⟩
                · go_wp2
                  go_ret2
                  exact ⟨rfl, Below.refl _ _⟩
          · obtain rfl : j = S.size := by omega
            have hm0 : m < 1000000000000000000 := dec_bound18 (unhide hm) (by omega)
            have hfin : Hid (∀ v, IsText (if true = true then 45 :: S.data.toList else S.data.toList) v → v = -(m : Int)) := fun v hv => by
              obtain ⟨hsg, D, c1, c2, e, hD, d1, d2, l1, l2, hval⟩ := shape true hv (fun h => absurd h (by decide))
              have hfs := find_shape hD (e ▸ unhide HF)
              have hkD : k = D.length := by omega
              have h3 := unhide hm
              have h4 := unhide HS
              rw [← h4, e, hkD] at h3
              rw [show (D ++ [46, c1, c2]).length = D.length + 3 by simp, strip_all, hval] at h3
              have := Option.some.inj h3
              simp at hsg; omega
            clear hsl hm
            cases hok : okB (-(m : Int))
            · have hR : R = none := none_of (unhide HR) (fun v hv => by
                have e := unhide hfin v hv
                have h1 := hv.1
                rw [e, hok] at h1; cases h1)
              subst hR
              go_wp2_with (first | (go_at_call 13; refine (okS _ _).mono ?_; rintro e w' ⟨rfl, rfl⟩))
              go_ret2
              exact ⟨rfl, Below.refl _ _⟩
            · go_wp2_with (first | (go_at_call 13; refine (okS _ _).mono ?_; rintro e w' ⟨rfl, rfl⟩))
              refine (textS (-(m : Int)) _).mono ?_
              rintro e w3 ⟨rfl, hb3⟩
              generalize hT : textL (-(m : Int)) = T
              have HT := hide hT; clear hT
              go_wp2
              · have hne : (!T == X.toList) = true := by assumption
                have hR : R = none := none_of (unhide HR) (fun v hv => by
                  have e := unhide hfin v hv
                  have h1 := hv.2
                  rw [e, unhide HT, ← unhide HO] at h1
                  rw [h1, Lib.toList_data] at hne; simp at hne)
                go_ret2
                exact ⟨by rw [hR]; rfl, hb3⟩
              · have heq : (!T == X.toList) = false := by assumption
                have hR : R = some (-(m : Int)) := (unhide HR _).2 ⟨hok, by
                  rw [unhide HT, ← unhide HO]; rw [Lib.toList_data] at heq; simpa using heq⟩
                go_ret2
                exact ⟨by rw [hR]; rfl, hb3⟩
    · have x2' : (r != (S.size : Int) - 3) = true := by simpa using x2
      have hR : R = none := none_of (unhide HR) (fun v hv => by
        obtain ⟨_, D, c1, c2, e, hD, _, _, l1, l2, _⟩ := shape true hv (fun h => absurd h (by decide))
        have hfs := find_shape hD (e ▸ unhide HF)
        have := congrArg List.length e
        rw [unhide HS] at this
        simp at this; omega)
      subst hR
      clear x2
      go_wp2
      go_ret2
      exact ⟨rfl, Below.refl _ _⟩

theorem readS (X : ByteArray) (w : World) (hs : X.size ≤ 2000000) :
    Calls Tryd.prog 15 #[.string X] w fun e w' => e = .returned (.tuple #[.int .i64 ((readOf X.data.toList).getD 0), .bool (readOf X.data.toList).isSome]) ∧ Below w.heap.size w w' := by
  by_cases h : X.data.toList.head? = some 45
  · exact readS_neg X w hs h
  · exact readS_pos X w hs h

/-- FnExactCoinRead: the law's walk -/
theorem exactRead (s0 : ByteArray) (w : World) (hm : s0.size ≤ maxLen) (he : Env w) :
    Calls Tryd.prog 5 #[.string s0] w fun e w' => e = .returned (.bool true) ∧ Below w.heap.size w w' := by
  unfold maxLen at hm
  by_cases hl : 1048576 < s0.size
  · go_enter Tryd.func5, Tryd.ntmps5
    go_wp2
    go_ret
    exact ⟨rfl, Below.refl _ _⟩
  · have h1 := readS s0 w (by omega)
    have h2 := fun (w' : World) (h : Env w') => readI s0 w' (by omega) h
    generalize (readOf s0.data.toList).getD 0 = V at *
    generalize (readOf s0.data.toList).isSome = B at *
    have H1 := hide h1; have H2 := hide h2; clear h1 h2
    go_enter Tryd.func5, Tryd.ntmps5
    go_wp2_with fail
    refine (unhide H1).mono ?_
    rintro e w1 ⟨rfl, hb1⟩
    go_wp2_with fail
    refine (unhide H2 w1 (he.kept hb1)).mono ?_
    rintro e w2 ⟨rfl, hb2⟩
    go_wp2
    go_ret
    exact ⟨rfl, below2 hb1 hb2⟩
end Go.Proofs.YtlgmelmagciopaaDoor.Text
