/-
  The program's tokens: roleOf, sealTime, tokenFormed, pointed, markOf, SealText, SealMake, SealCheck.
-/
import Derived.Test.YtlmdpfhabiakmaaGreatDoorTokS
namespace Go.Proofs.YtlmdpfhabiakmaaGreatDoor.Tok
set_option linter.unusedVariables false
open Go.RowKit
open Num (bytesOf)
open Strs hiding hide unhide below_trans
open Mac (hide unhide below_trans macL macL_bd macI macS)
open Boxes (At box1 box2)
open _root_.Go.Proofs.YtlmdpfhabiakmaaGreatDoor.Text (Tens itoaI)

theorem roleI (r : Int) (w : World) : Calls Tryz.prog 31 #[.int .i64 r] w fun x w' => ∃ v, x = .returned (.tuple #[v, .bool (roleB r)]) ∧ w' = w := by
  by_cases h1 : r = 1
  · subst h1
    go_enter Tryz.func31, Tryz.ntmps31
    go_wp2
    go_ret2
    exact ⟨_, rfl, rfl⟩
  · by_cases h2 : r = 2
    · subst h2
      go_enter Tryz.func31, Tryz.ntmps31
      go_wp2
      go_ret2
      exact ⟨_, rfl, rfl⟩
    · by_cases h3 : r = 3
      · subst h3
        go_enter Tryz.func31, Tryz.ntmps31
        go_wp2
        go_ret2
        exact ⟨_, rfl, rfl⟩
      · have hB : roleB r = false := role_not.2 (by omega)
        rw [hB]
        clear hB
        go_enter Tryz.func31, Tryz.ntmps31
        go_wp2
        go_ret2
        exact ⟨_, rfl, rfl⟩
theorem timeI (n : Int) (w : World) : Calls Tryz.prog 32 #[.int .i64 n] w fun x w' => x = .returned (.bool (timeB n)) ∧ w' = w := by
  by_cases h1 : 0 ≤ n
  · by_cases h2 : n ≤ 1000000
    · go_enter Tryz.func32, Tryz.ntmps32
      go_wp2
      go_ret
      exact ⟨ret_bool (time_iff.2 ⟨h1, h2⟩).symm, rfl⟩
    · go_enter Tryz.func32, Tryz.ntmps32
      go_wp2
      go_ret
      exact ⟨ret_bool (time_not.2 (by omega)).symm, rfl⟩
  · go_enter Tryz.func32, Tryz.ntmps32
    go_wp2
    go_ret
    exact ⟨ret_bool (time_not.2 (by omega)).symm, rfl⟩
theorem tenI (n : Int) (w : World) : Calls Tryz.prog 17 #[.int .i64 n] w fun x w' => x = .returned (.bool (tenB n)) ∧ w' = w := by
  by_cases h1 : 0 ≤ n
  · by_cases h2 : n ≤ 9
    · go_enter Tryz.func17, Tryz.ntmps17
      go_wp2
      go_ret
      exact ⟨ret_bool (ten_iff.2 ⟨h1, h2⟩).symm, rfl⟩
    · go_enter Tryz.func17, Tryz.ntmps17
      go_wp2
      go_ret
      exact ⟨ret_bool (ten_not.2 (by omega)).symm, rfl⟩
  · go_enter Tryz.func17, Tryz.ntmps17
    go_wp2
    go_ret
    exact ⟨ret_bool (ten_not.2 (by omega)).symm, rfl⟩

def macB (m : Int) : Bool := decide (0 ≤ m) && decide (m < 1000000007)
theorem m_cases (m : Int) : (0 ≤ m ∧ m < 1000000007 ∧ macB m = true) ∨ (m < 0 ∧ macB m = false) ∨ (0 ≤ m ∧ 1000000007 ≤ m ∧ macB m = false) := by
  unfold macB
  by_cases h1 : 0 ≤ m
  · by_cases h2 : m < 1000000007
    · exact .inl ⟨h1, h2, by simp [h1, h2]⟩
    · exact .inr (.inr ⟨h1, by omega, by simp [h2]⟩)
  · exact .inr (.inl ⟨by omega, by simp [h1]⟩)
set_option maxHeartbeats 1000000 in
theorem formedI (r u e m : Int) (w : World) : Calls Tryz.prog 16 #[tokV r u e m] w fun x w' => x = .returned (.bool (formB r u e m)) ∧ Below w.heap.size w w' := by
  have HF : Hid (formB r u e m = (roleB r && timeB u && timeB e && macB m)) := hide (by simp [formB, macB, Bool.and_assoc])
  cases h1 : roleB r <;> cases h2 : timeB u <;> cases h3 : timeB e <;> rcases m_cases m with ⟨h4, h5, hm⟩ | ⟨h4, hm⟩ | ⟨h4, h5, hm⟩
  all_goals
    have H1 : Hid (formB r u e m = _) := hide (by rw [unhide HF, h1, h2, h3, hm])
    clear HF hm
    go_enter Tryz.func16, Tryz.ntmps16
    go_wp2_with (first | (go_at_call 31; refine (roleI _ _).mono ?_; rintro x w' ⟨v, rfl, rfl⟩) | (go_at_call 32; refine (timeI _ _).mono ?_; rintro x w' ⟨rfl, rfl⟩))
    go_ret
    exact ⟨ret_bool (by first | (rw [unhide H1]; rfl) | (rw [unhide H1]; simp; omega)), below_alloc _ _⟩

/-- four numbers in a row -/
def Row4 (W : World) (b : Nat) (l : List Int) : Prop := ∀ j x, l[j]? = some x → W.cell? ⟨b, j, none⟩ = some (.int .i64 x)

set_option maxHeartbeats 1000000 in
set_option maxRecDepth 20000 in
/-- impl.pointed -/
theorem pointedI (b : Nat) (x0 x1 x2 x3 : Int) (w : World) (h0 : i64 x0) (h1 : i64 x1) (h2 : i64 x2) (h3 : i64 x3) (hb : b < w.heap.size) (hR : Row4 w b [x0, x1, x2, x3]) (hT : Tens w) :
    Calls Tryz.prog 28 #[.slice (some ⟨b, 0, none⟩) 4 4] w fun x w' => x = .returned (.string (bytesOf (ptL x0 x1 x2 x3))) ∧ Below w.heap.size w w' := by
  have hmk : ∀ W : World, (Instr.makeSlice 46 (.int .i64 4) (.int .i64 4)).run Tryz.prog W = .ok (.slice (some ⟨W.heap.size, 0, none⟩) 4 4) (W.alloc (.cells (madeCells #[.string ByteArray.empty] 4) 9)) := run_make_row' (P := Tryz.prog) 46 9 (.string ByteArray.empty) 16 Tryz.underlying46 infoS rfl .i64 .i64 4 (by omega) (by omega)
  have HT := hide hT
  have HR := hide hR
  have HI : Hid (∀ x ∈ [x0, x1, x2, x3], i64 x) := hide (by simp [h0, h1, h2, h3])
  have W2 := hide (WRow.made w 4 9)
  have B0 : Hid (Below w.heap.size w (w.alloc (.cells (madeCells #[.string ByteArray.empty] 4) 9))) := hide (below_alloc _ _)
  have HL := hide (pt_len h0 h1 h2 h3)
  clear hT hR h0 h1 h2 h3
  obtain ⟨L, hL⟩ : ∃ L, L = [x0, x1, x2, x3] := ⟨_, rfl⟩
  have hL4 : L.length = 4 := by rw [hL]; rfl
  have HLe := hide hL
  rw [← hL] at HR HI
  have HL4 := hide hL4
  clear hL hL4
  go_enter Tryz.func28, Tryz.ntmps28
  go_wp2_with (fail)
  clear hmk
  go_loopw [11] (fun i wr => ∃ j : Nat, j ≤ 4 ∧ i = .int .i64 j ∧ Hid (WRow wr w.heap.size 4 ((L.take j).map Lib.itoa)) ∧ Hid (Below w.heap.size w wr)) (fun i _ => 4 - (intOf i).toNat)
  case atStart => exact ⟨0, by omega, rfl, W2, B0⟩
  case round =>
    obtain ⟨j, hj, rfl, hr, hB⟩ := hrel
    by_cases hlt : j < 4
    · have hjl : j < L.length := by rw [unhide HL4]; exact hlt
      have d0 := ((unhide hB).cell (p := ⟨b, j, none⟩) hb).trans (unhide HR j (L.getD j 0) (by simp [List.getD, hjl]))
      have hx := unhide HI (L.getD j 0) (by simp [List.getD, hjl])
      have HTE : Hid ((L.take (j + 1)).map Lib.itoa = (L.take j).map Lib.itoa ++ [Lib.itoa (L.getD j 0)]) := hide (by rw [List.take_add_one, List.getElem?_eq_getElem hjl, List.map_append]; simp [List.getD, hjl])
      have hlen : ((L.take j).map Lib.itoa).length = j := by simp; omega
      have hlen := hide hlen
      generalize L.getD j 0 = x at *
      have HC : Hid (∀ W : World, Tens W → Calls Tryz.prog 38 #[.int .i64 x] W fun e w' => e = .returned (.string ⟨(Lib.itoa x).toArray⟩) ∧ Below W.heap.size W w') := hide (fun W hW => itoaI x W hx.1 hx.2 hW)
      have i1 : (j : Int) < 4 := by omega
      have hwr := (unhide hr).lt
      clear hx
      go_wp2_with (fail)
      refine (unhide HC _ ((unhide HT).kept (unhide hB))).mono ?_
      rintro e w6 ⟨rfl, hb6⟩
      have hR6 := (unhide hr).kept hb6
      obtain ⟨c6, hc6⟩ := hR6.any j (by omega)
      have f6 := hR6.free j
      have HR6 : Hid (WRow (w6.setCell ⟨w.heap.size, j, none⟩ (.string ⟨(Lib.itoa x).toArray⟩)) w.heap.size 4 ((L.take (j + 1)).map Lib.itoa)) := hide (by
        have := hR6.set (by rw [unhide hlen]; omega) (Lib.itoa x)
        rw [unhide hlen, ← unhide HTE] at this
        exact this)
      have HB6 : Hid (Below w.heap.size w (w6.setCell ⟨w.heap.size, j, none⟩ (.string ⟨(Lib.itoa x).toArray⟩))) := hide ((below_trans (unhide hB) hb6).setCell (Nat.le_refl _) _)
      clear hR6 hb6
      go_wp2_with (fail)
      exact ⟨⟨j + 1, by omega, by go_num, HR6, HB6⟩, by simp [intOf]; omega⟩
    · obtain rfl : j = 4 := by omega
      have hW := unhide hr
      rw [List.take_of_length_le (by rw [unhide HL4]; omega)] at hW
      have hLe := unhide HLe
      have hj : Lib.join ([x0, x1, x2, x3].map Lib.itoa) [46] = ptL x0 x1 x2 x3 := by simp [Lib.join, List.intercalate, ptL]
      have hJ := Tryz.strings_Join w.heap.size 0 4 (([x0, x1, x2, x3].map Lib.itoa).map bytesOf) ⟨#[46]⟩ wr (by
        intro i y hy
        rw [List.getElem?_map] at hy
        obtain ⟨z, hz, rfl⟩ := Option.map_eq_some_iff.1 hy
        rw [Nat.zero_add]
        exact hW.at_ i z (by rw [hLe]; exact hz)) hW.lt (by simp) (by simp) (by
        rw [bytes_map]
        show (Lib.join ([x0, x1, x2, x3].map Lib.itoa) [46]).length ≤ _
        rw [hj]; have := unhide HL; omega)
      rw [bytes_map] at hJ
      have e46 : (⟨#[46]⟩ : ByteArray).data.toList = [46] := rfl
      rw [e46, hj] at hJ
      have HJ := hide hJ
      clear hJ hj hW hLe e46
      go_wp2_with (fail)
      refine (unhide HJ).mono ?_
      rintro e w6 ⟨rfl, hb6⟩
      go_wp2_with (fail)
      go_ret
      exact ⟨rfl, below_trans (unhide hB) hb6⟩

set_option maxHeartbeats 1000000 in
/-- impl.markOf -/
theorem markI (k t r u e m : Int) (w : World) (ht : i64 t) (hr : i64 r) (hu : i64 u) (he : i64 e) (hT : Tens w) : Calls Tryz.prog 15 #[.int .i64 k, .int .i64 t, tokV r u e m] w fun x w' => x = .returned (.int .i64 (macL k (ptL t r u e))) ∧ Below w.heap.size w w' := by
  have HL := hide (pt_len ht hr hu he)
  obtain ⟨q0, q1, q2, q3⟩ := new4 w (.int .i64 r) (.int .i64 u) (.int .i64 e) (.int .i64 m) 26
  have HT := hide (hT.kept (below_alloc2 w (.cells #[.int .i64 r, .int .i64 u, .int .i64 e, .int .i64 m] 26) (.cells #[.int .i64 t, .int .i64 r, .int .i64 u, .int .i64 e] 3)))
  have HR : Hid (Row4 ((w.alloc (.cells #[.int .i64 r, .int .i64 u, .int .i64 e, .int .i64 m] 26)).alloc (.cells #[.int .i64 t, .int .i64 r, .int .i64 u, .int .i64 e] 3)) (w.heap.size + 1) [t, r, u, e]) := hide (by
    have h := new4 (w.alloc (.cells #[.int .i64 r, .int .i64 u, .int .i64 e, .int .i64 m] 26)) (.int .i64 t) (.int .i64 r) (.int .i64 u) (.int .i64 e) 3
    rw [World.size_alloc] at h
    intro j x hx
    rcases j with _ | _ | _ | _ | j
    · obtain rfl : t = x := by simpa using hx
      exact h.1
    · obtain rfl : r = x := by simpa using hx
      exact h.2.1
    · obtain rfl : u = x := by simpa using hx
      exact h.2.2.1
    · obtain rfl : e = x := by simpa using hx
      exact h.2.2.2
    · simp at hx)
  clear hT
  go_enter Tryz.func15, Tryz.ntmps15
  go_wp2_with fail
  refine (pointedI (w.heap.size + 1) t r u e _ ht hr hu he (by simp) (unhide HR) (unhide HT)).mono ?_
  rintro x w1 ⟨rfl, hb1⟩
  go_wp2_with fail
  refine (macI' k _ (by have := unhide HL; omega) _).mono ?_
  rintro x w2 ⟨rfl, hb2⟩
  go_wp2_with fail
  go_ret
  exact ⟨rfl, below_trans (below_trans (below_alloc2 _ _ _) hb1) hb2⟩

set_option maxHeartbeats 1000000 in
/-- impl.SealText -/
theorem textI (r u e m : Int) (w : World) (hT : Tens w) : Calls Tryz.prog 10 #[tokV r u e m] w fun x w' => x = .returned (.string (bytesOf (textT r u e m))) ∧ Below w.heap.size w w' := by
  cases hF : formB r u e m with
  | false =>
    have HE : Hid (bytesOf (textT r u e m) = ByteArray.empty) := hide (by unfold textT; rw [hF]; rfl)
    go_enter Tryz.func10, Tryz.ntmps10
    go_wp2_with fail
    refine (formedI r u e m _).mono ?_
    rintro x w1 ⟨rfl, hb1⟩
    rw [hF]
    go_wp2_with fail
    go_ret
    exact ⟨ret_by (unhide HE).symm, below_trans (below_alloc _ _) hb1⟩
  | true =>
    obtain ⟨hr, hu, he, hm⟩ := form_i64 hF
    have HF := hide hF
    have HE : Hid (textT r u e m = ptL r u e m) := hide (by unfold textT; rw [if_pos hF])
    rw [unhide HE]
    have HI := hide (And.intro hr (And.intro hu (And.intro he hm)))
    clear hF hr hu he hm HE
    go_enter Tryz.func10, Tryz.ntmps10
    go_wp2_with fail
    refine (formedI r u e m _).mono ?_
    rintro x w1 ⟨rfl, hb1⟩
    rw [unhide HF]
    obtain ⟨A0, hB, hz⟩ := box1 hb1
    clear hb1
    obtain ⟨⟨c0, c1, c2, c3⟩, _⟩ := at4 A0
    have HT := hide (hT.kept (below_trans hB (below_alloc w1 (.cells #[.int .i64 r, .int .i64 u, .int .i64 e, .int .i64 m] 3))))
    have HR : Hid (Row4 (w1.alloc (.cells #[.int .i64 r, .int .i64 u, .int .i64 e, .int .i64 m] 3)) w1.heap.size [r, u, e, m]) := hide (by
      have h := new4 w1 (.int .i64 r) (.int .i64 u) (.int .i64 e) (.int .i64 m) 3
      intro j x hx
      rcases j with _ | _ | _ | _ | j
      · obtain rfl : r = x := by simpa using hx
        exact h.1
      · obtain rfl : u = x := by simpa using hx
        exact h.2.1
      · obtain rfl : e = x := by simpa using hx
        exact h.2.2.1
      · obtain rfl : m = x := by simpa using hx
        exact h.2.2.2
      · simp at hx)
    clear hT
    go_wp2_with fail
    refine (pointedI w1.heap.size r u e m _ (unhide HI).1 (unhide HI).2.1 (unhide HI).2.2.1 (unhide HI).2.2.2 (by simp) (unhide HR) (unhide HT)).mono ?_
    rintro x w2 ⟨rfl, hb2⟩
    go_wp2_with fail
    go_ret
    exact ⟨rfl, below_trans (below_trans hB (below_alloc _ _)) hb2⟩

theorem form_mac {r u e m : Int} (h0 : 0 ≤ m) (h1 : m ≤ 1000000006) : formB r u e m = formB r u e 0 := by
  unfold formB
  rw [decide_eq_true h0, decide_eq_true (show m < 1000000007 by omega)]
  rfl

set_option maxHeartbeats 1000000 in
/-- impl.SealMake -/
theorem makeI (k t r u e : Int) (w : World) (ht : i64 t) (hr : i64 r) (hu : i64 u) (he : i64 e) (hT : Tens w) : Calls Tryz.prog 5 #[.int .i64 k, .int .i64 t, .int .i64 r, .int .i64 u, .int .i64 e] w fun x w' => x = .returned (tokP (makeT k t r u e)) ∧ Below w.heap.size w w' := by
  have hM := macL_bd k (ptL t r u e)
  have HF := hide (form_mac (r := r) (u := u) (e := e) hM.1 hM.2)
  have HM := hide (fun W hW => markI k t r u e 0 W ht hr hu he hW)
  have HP : Hid (tokP (makeT k t r u e) = if (formB r u e 0 && tenB t) = true then tokV r u e (macL k (ptL t r u e)) else tokV 0 0 0 0) := hide (by unfold makeT makeB; split <;> rfl)
  clear ht hr hu he
  generalize macL k (ptL t r u e) = M at *
  rw [unhide HP]
  clear HP hM
  have HT := hide hT
  clear hT
  have HP : Hid (∀ v, (formB r u e 0 && tenB t) = true → v = tokV r u e M → v = if (formB r u e 0 && tenB t) = true then tokV r u e M else tokV 0 0 0 0) := hide (fun v h e => by rw [if_pos h]; exact e)
  have HN : Hid ((formB r u e 0 && tenB t) = false → tokV 0 0 0 0 = if (formB r u e 0 && tenB t) = true then tokV r u e M else tokV 0 0 0 0) := hide (fun h => by rw [if_neg (by rw [h]; simp)])
  cases h1 : formB r u e 0 <;> cases h2 : tenB t
  all_goals
    rw [h1, h2] at HP HN
    have HF' := HF
    rw [h1] at HF'
    have H2 := hide h2
    clear HF h1 h2
    go_enter Tryz.func5, Tryz.ntmps5
    go_wp2_with fail
    refine (unhide HM _ ((unhide HT).kept (below_alloc2 _ _ _))).mono ?_
    rintro x w1 ⟨rfl, hb1⟩
    obtain ⟨A0, A1, hB, hz⟩ := box2 hb1
    clear hb1
    obtain ⟨⟨c0, c1, c2, c3⟩, f0, f1, f2, f3⟩ := at4 A1
    have A2 := A1.set 3 (.int .i64 M)
    have A3 := A0.other (g := w.heap.size + 1) (k := 3) (.int .i64 M) (by omega)
    have hB2 := hB.setCell (p := ⟨w.heap.size + 1, 3, none⟩) (by simp) (.int .i64 M)
    have hz2 : w.heap.size + 2 ≤ (w1.setCell ⟨w.heap.size + 1, 3, none⟩ (.int .i64 M)).heap.size := by simpa using hz
    clear A0 A1 hB hz
    go_wp2_with fail
    clear c0 c1 c2 c3 f0 f1 f2 f3
    generalize w1.setCell ⟨w.heap.size + 1, 3, none⟩ (.int .i64 M) = W1 at *
    refine (formedI r u e M _).mono ?_
    rintro x w2 ⟨rfl, hb2⟩
    rw [unhide HF']
    have A0 := A3.below hb2 (by omega)
    have A1 := A2.below hb2 (by omega)
    have hB := below_trans hB2 hb2
    clear A2 A3 hB2 hb2
    obtain ⟨⟨d0, d1, d2, d3⟩, g0, g1, g2, g3⟩ := at4 A0
    obtain ⟨⟨c0, c1, c2, c3⟩, _⟩ := at4 A1
    go_wp2_with (first | (go_at_call 17; refine (tenI _ _).mono ?_; rintro x w' ⟨rfl, rfl⟩; rw [unhide H2]))
    first
      | exact bodyPost_ret (v := tokV 0 0 0 0) (by simp [results, Tryz.results5, go_sem, d0, d1, d2, d3]) rfl ⟨ret_v (unhide HN rfl), set4 hB (Nat.le_refl _) _ _ _ _⟩
      | exact bodyPost_ret (v := tokV r u e M) (by simp [results, Tryz.results5, go_sem, d0, d1, d2, d3]) rfl ⟨ret_v (unhide HP _ rfl rfl), set4 hB (Nat.le_refl _) _ _ _ _⟩
end Go.Proofs.YtlmdpfhabiakmaaGreatDoor.Tok
