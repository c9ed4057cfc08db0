/-
  impl.SealRead.
-/
import Derived.Test.YtlmdpfhabiakmaaGreatDoorEnvA
import Derived.Test.YtlmdpfhabiakmaaGreatDoorTokRd
import Derived.Test.YtlmdpfhabiakmaaGreatDoorTokI
namespace Go.Proofs.YtlmdpfhabiakmaaGreatDoor.Tok
set_option linter.unusedVariables false
open Go.RowKit
open Num (bytesOf)
open Strs hiding hide unhide below_trans
open Mac (hide unhide below_trans)
open Boxes (At box1 box2)
open EnvA (Env atoiC splitC)

theorem split_le (s : ByteArray) (k : Nat) : ∀ x ∈ Lib.splitB ⟨#[46]⟩ 0 k s, x.size ≤ s.size := by
  induction k generalizing s with
  | zero => intro x hx; rw [Lib.splitB_zero] at hx; obtain rfl := List.mem_singleton.1 hx; exact Nat.le_refl _
  | succ k ih =>
    intro x hx
    unfold Lib.splitB at hx
    split at hx
    · obtain rfl := List.mem_singleton.1 hx; exact Nat.le_refl _
    · rcases List.mem_cons.1 hx with rfl | h
      · simp; omega
      · have := ih _ x h
        simp at this; omega

theorem len4 {α : Type} {l : List α} (h : l.length = 4) : ∃ a b c d, l = [a, b, c, d] := by
  match l, h with
  | [a, b, c, d], _ => exact ⟨a, b, c, d, rfl⟩
/-- the words of a text, in block b -/
def Words (W : World) (b : Nat) (xs : List ByteArray) : Prop := ∀ j x, xs[j]? = some x → W.cell? ⟨b, j, none⟩ = some (.string x)
theorem Words.kept {W W' : World} {b : Nat} {xs : List ByteArray} (h : Words W b xs) (hb : Below W.heap.size W W') : Words W' b xs := fun j x hx => by
  have := h j x hx
  exact (hb.cell (p := ⟨b, j, none⟩) (EnvA.cell_lt this)).trans this
theorem Words.other {W : World} {b g k : Nat} {xs : List ByteArray} (h : Words W b xs) (u : Value) (hg : g ≠ b) : Words (W.setCell ⟨g, k, none⟩ u) b xs := fun j x hx => by
  rw [World.cell?_setCell_other _ _ _ _ (by intro e; simp only [Addr.mk.injEq, and_true] at e; omega)]
  exact h j x hx
/-- four numbers in block b, those of the first j words being what these say -/
def Nums (W : World) (b : Nat) (xs : List ByteArray) (N : List Int) (j : Nat) : Prop := At W b (N.map (Value.int .i64)) ∧ N.length = 4 ∧ ∀ i, i < j → ∀ k, Lib.atoiAll (xs.getD i ByteArray.empty).data.toList = .ok k → N.getD i 0 = k
theorem Nums.below {W W' : World} {b j : Nat} {xs : List ByteArray} {N : List Int} (h : Nums W b xs N j) (hb : Below W.heap.size W W') (hl : b < W.heap.size) : Nums W' b xs N j := ⟨h.1.below hb hl, h.2⟩
theorem Nums.set {W : World} {b j : Nat} {xs : List ByteArray} {N : List Int} (h : Nums W b xs N j) (hj : j < 4) (n : Int) (hn : ∀ k, Lib.atoiAll (xs.getD j ByteArray.empty).data.toList = .ok k → n = k) : Nums (W.setCell ⟨b, j, none⟩ (.int .i64 n)) b xs (N.set j n) (j + 1) := by
  refine ⟨by rw [List.map_set]; exact h.1.set j _, by rw [List.length_set]; exact h.2.1, fun i hi k hk => ?_⟩
  by_cases e : i = j
  · subst e
    rw [List.getD_eq_getElem?_getD, List.getElem?_set_self (by rw [h.2.1]; exact hj)]
    exact hn k hk
  · rw [List.getD_eq_getElem?_getD, List.getElem?_set_ne (fun e' => e e'.symm), ← List.getD_eq_getElem?_getD]
    exact h.2.2 i (by omega) k hk
theorem Nums.cell {W : World} {b j : Nat} {xs : List ByteArray} {N : List Int} (h : Nums W b xs N j) {i : Nat} (hi : i < 4) : W.cell? ⟨b, i, none⟩ = some (.int .i64 (N.getD i 0)) ∧ W.frozen? ⟨b, i, none⟩ = false := by
  refine h.1 i _ ?_
  rw [List.getElem?_map, List.getD_eq_getElem?_getD, List.getElem?_eq_getElem (by rw [h.2.1]; exact hi)]; rfl
/-- the numbers are a token's, if the text is one's -/
theorem nums_tok {s : ByteArray} {xs : List ByteArray} {N : List Int} (hW : ∀ q, IsTok s.data.toList q → xs.map (·.data.toList) = wordsP q) (h : ∀ i, i < 4 → ∀ k, Lib.atoiAll (xs.getD i ByteArray.empty).data.toList = .ok k → N.getD i 0 = k) :
    ∀ q, IsTok s.data.toList q → ((N.getD 0 0, N.getD 1 0, N.getD 2 0, N.getD 3 0) : Int × Int × Int × Int) = q := by
  intro q hq
  have e := hW q hq
  obtain ⟨k1, k2, k3, k4⟩ := hq.num
  have hl : xs.length = 4 := by have := congrArg List.length e; simpa [wordsP] using this
  obtain ⟨a, b, c, d, rfl⟩ := len4 hl
  simp only [wordsP, List.map_cons, List.map_nil, List.cons.injEq, and_true] at e
  obtain ⟨e1, e2, e3, e4⟩ := e
  have h0 := h 0 (by omega) q.1 (by show Lib.atoiAll a.data.toList = _; rw [e1]; exact Num.atoi_itoa k1)
  have h1 := h 1 (by omega) q.2.1 (by show Lib.atoiAll b.data.toList = _; rw [e2]; exact Num.atoi_itoa k2)
  have h2 := h 2 (by omega) q.2.2.1 (by show Lib.atoiAll c.data.toList = _; rw [e3]; exact Num.atoi_itoa k3)
  have h3 := h 3 (by omega) q.2.2.2 (by show Lib.atoiAll d.data.toList = _; rw [e4]; exact Num.atoi_itoa k4)
  rw [h0, h1, h2, h3]
theorem ext_toList {s t : ByteArray} (h : s.toList = t.toList) : s = t := by
  rw [Lib.toList_data, Lib.toList_data] at h
  cases s; cases t
  simp only at h
  rw [Array.toList_inj.1 h]
theorem by_ext {a b : ByteArray} (h : a.data.toList = b.data.toList) : a = b := by
  apply ByteArray.ext; exact Array.toList_inj.1 h

set_option maxHeartbeats 1000000 in
set_option maxRecDepth 20000 in
theorem readTI (s : ByteArray) (w : World) (hs : s.size ≤ 1100000) (he : Env w) :
    Calls Tryz.prog 8 #[.string s] w fun x w' => ∃ ok p, x = .returned (.tuple #[tokP p, .bool ok]) ∧ OutTok s.data.toList ok p ∧ Below w.heap.size w w' := by
  have hlen : s.data.toList.length = s.size := Array.length_toList
  have HE := hide he
  have HW := hide (fun q (hq : IsTok s.data.toList q) => hq.split)
  have HSL := hide (Lib.splitB_length_le ⟨#[46]⟩ 0 (min 5 (s.size + 1) - 1) s)
  have HSZ := hide (split_le s (min 5 (s.size + 1) - 1))
  have HNE : Hid (4 ≤ min 5 (s.size + 1) - 1 + 1 → s.data.toList ≠ []) := hide (fun h e => by rw [e] at hlen; simp at hlen; omega)
  clear he
  go_enter Tryz.func8, Tryz.ntmps8
  go_wp2_with fail
  refine (splitC s _ hs ((unhide HE).kept (below_alloc2 _ _ _))).mono ?_
  rintro x w1 ⟨rfl, hc, hz, hb⟩
  obtain ⟨A0, A1, hB, hz1⟩ := box2 hb
  simp only [World.size_alloc] at hc hz
  generalize Lib.splitB ⟨#[46]⟩ 0 (min 5 (s.size + 1) - 1) s = xs at *
  have HC : Hid (Words w1 (w.heap.size + 1 + 1) xs) := hide hc
  have HL := hide hlen
  clear hb hc hlen
  by_cases h4 : xs.length = 4
  · have HX4 := hide h4
    have HN0 : Hid (Nums w1 (w.heap.size + 1) xs [0, 0, 0, 0] 0) := hide ⟨A1, rfl, fun i hi => by omega⟩
    have HA0 := hide A0
    have HB := hide hB
    rw [h4]
    have hc4 : 4 ≤ min 5 (s.size + 1) := by have := unhide HSL; omega
    have hne : s.data.toList ≠ [] := unhide HNE (by omega)
    have HNN := hide hne
    clear A0 A1 hB h4 hne
    go_wp2_with fail
    go_loopw [17] (fun t17 wr => ∃ (j : Nat) (N : List Int), j ≤ 4 ∧ t17 = .int .i64 j ∧ w.heap.size + 1 + 1 < wr.heap.size ∧ Hid (Nums wr (w.heap.size + 1) xs N j) ∧ Hid (Words wr (w.heap.size + 1 + 1) xs) ∧ Hid (At wr w.heap.size [.int .i64 0, .int .i64 0, .int .i64 0, .int .i64 0]) ∧ Hid (Below w.heap.size w wr)) (fun t17 _ => 4 - (intOf t17).toNat)
    case atStart => exact ⟨0, _, by omega, rfl, hz, HN0, HC, HA0, HB⟩
    case round =>
      obtain ⟨j, N, hj, rfl, hzr, hN, hWd, hA, hB⟩ := hrel
      by_cases hlt : j < 4
      · have hjl : j < xs.length := by rw [unhide HX4]; exact hlt
        have d0 := unhide hWd j (xs.getD j ByteArray.empty) (by simp [List.getD, hjl])
        have HS : Hid ((xs.getD j ByteArray.empty).size ≤ 1100000) := hide (by
          have := unhide HSZ (xs.getD j ByteArray.empty) (by simp [List.getD, hjl])
          omega)
        have HAt := hide (fun W hW => atoiC (xs.getD j ByteArray.empty) W (unhide HS) hW)
        have HSet := hide (fun W (n : Int) (h : Nums W (w.heap.size + 1) xs N j) hn => h.set hlt n hn)
        generalize xs.getD j ByteArray.empty = xj at *
        have i0 : (0 : Int) ≤ (j : Int) := by omega
        have i1 : (j : Int) < 4 := by omega
        go_wp2_with fail
        refine (unhide HAt _ ((unhide HE).kept (unhide hB))).mono ?_
        rintro x w2 ⟨n, er, rfl, hn, hb2⟩
        have hN2 := (unhide hN).below hb2 (by omega)
        obtain ⟨c1, f1⟩ := hN2.cell hlt
        have HN2 := hide (unhide HSet _ n hN2 hn)
        have HW2 := hide (((unhide hWd).kept hb2).other (g := w.heap.size + 1) (k := j) (.int .i64 n) (by omega))
        have HA2 := hide (((unhide hA).below hb2 (by omega)).other (g := w.heap.size + 1) (k := j) (.int .i64 n) (by omega))
        have HB2 := hide ((below_trans (unhide hB) hb2).setCell (p := ⟨w.heap.size + 1, j, none⟩) (by simp) (.int .i64 n))
        have hz2 := hb2.size
        clear hN2 hb2 hn d0
        go_wp2_with fail
        exact ⟨⟨j + 1, _, by omega, by go_num, by simp; omega, HN2, HW2, HA2, HB2⟩, by simp [intOf]; omega⟩
      · obtain rfl : j = 4 := by omega
        have HT := hide (nums_tok (unhide HW) (unhide hN).2.2)
        obtain ⟨c0, _⟩ := (unhide hN).cell (i := 0) (by omega)
        obtain ⟨c1, _⟩ := (unhide hN).cell (i := 1) (by omega)
        obtain ⟨c2, _⟩ := (unhide hN).cell (i := 2) (by omega)
        obtain ⟨c3, _⟩ := (unhide hN).cell (i := 3) (by omega)
        generalize N.getD 0 0 = n0 at *
        generalize N.getD 1 0 = n1 at *
        generalize N.getD 2 0 = n2 at *
        generalize N.getD 3 0 = n3 at *
        have BA := below_alloc wr (.cells #[.int .i64 n0, .int .i64 n1, .int .i64 n2, .int .i64 n3] 26)
        have HE2 := hide ((unhide HE).kept (below_trans (unhide hB) BA))
        have HA2 := hide ((unhide hA).below BA (by omega))
        have HAn := hide (At.new wr #[.int .i64 n0, .int .i64 n1, .int .i64 n2, .int .i64 n3] 26)
        have HB2 := hide (below_trans (unhide hB) BA)
        clear BA
        go_wp2_with fail
        refine (textI n0 n1 n2 n3 _ (unhide HE2).1).mono ?_
        rintro x w3 ⟨rfl, hb3⟩
        have hA3 := (unhide HA2).below hb3 (by simp; omega)
        have hAn3 := (unhide HAn).below hb3 (by simp)
        have HB3 := hide (below_trans (unhide HB2) hb3)
        obtain ⟨⟨z0, z1, z2, z3⟩, f0, f1, f2, f3⟩ := at4 hA3
        obtain ⟨⟨y0, y1, y2, y3⟩, _⟩ := at4 hAn3
        by_cases hT : textT n0 n1 n2 n3 = s.data.toList
        · have hTs : bytesOf (textT n0 n1 n2 n3) = s := by_ext (by rw [by_list]; exact hT)
          have HO := hide (tok_of (N := (n0, n1, n2, n3)) (unhide HT) hT (unhide HNN))
          rw [hTs]
          clear hT hTs hA3 hAn3 hb3 c0 c1 c2 c3
          go_wp2_with fail
          exact bodyPost_ret (v := .tuple #[tokV n0 n1 n2 n3, .bool true]) (by simp [results, Tryz.results8, go_sem, z0, z1, z2, z3]) rfl ⟨true, (n0, n1, n2, n3), rfl, unhide HO, set4 (unhide HB3) (Nat.le_refl _) _ _ _ _⟩
        · have HO := hide (tok_no (N := (n0, n1, n2, n3)) (unhide HT) hT)
          have hTs : (bytesOf (textT n0 n1 n2 n3)).data.toList ≠ s.data.toList := by rw [by_list]; exact hT
          clear hT
          generalize bytesOf (textT n0 n1 n2 n3) = X at *
          have hT2 : (X.toList == s.toList) = false := beq_eq_false_iff_ne.2 fun e => hTs (by rw [ext_toList e])
          clear hTs hA3 hAn3 hb3 c0 c1 c2 c3
          go_wp2_with fail
          exact bodyPost_ret (v := .tuple #[tokV 0 0 0 0, .bool false]) (by simp [results, Tryz.results8, go_sem, z0, z1, z2, z3]) rfl ⟨false, (0, 0, 0, 0), rfl, unhide HO, set4 (unhide HB3) (Nat.le_refl _) _ _ _ _⟩
  · have HO : Hid (OutTok s.data.toList false (0, 0, 0, 0)) := hide (tok_none fun q hq => h4 (by have := congrArg List.length (unhide HW q hq); simpa [wordsP] using this))
    have hn4 : ((xs.length : Int) == 4) = false := by simp; omega
    have h5 := unhide HSL
    obtain ⟨⟨z0, z1, z2, z3⟩, f0, f1, f2, f3⟩ := at4 A0
    have HB := hide hB
    clear A0 A1 hB
    go_wp2_with fail
    exact bodyPost_ret (v := .tuple #[tokV 0 0 0 0, .bool false]) (by simp [results, Tryz.results8, go_sem, z0, z1, z2, z3]) rfl ⟨false, (0, 0, 0, 0), rfl, unhide HO, set4 (unhide HB) (Nat.le_refl _) _ _ _ _⟩
end Go.Proofs.YtlmdpfhabiakmaaGreatDoor.Tok
