/-
  impl.LogFrame, impl.readLogWord, impl.readFrame: the frame with which a log begins, or the panic where there is none.
-/
import Derived.Test.YtpamdnkngedmaaaDoorFrS
import Derived.Test.YtpamdnkngedmaaaDoorReadI
import Derived.Lib.IndexBytes
import Derived.Lib.IndexMore
namespace Go.Proofs.YtpamdnkngedmaaaDoor.Fr
set_option linter.unusedVariables false
open Go.RowKit
open _root_.Go.Proofs.YtpamdnkngedmaaaDoor.Text (Env)

set_option maxHeartbeats 1000000 in
/-- impl.LogFrame -/
theorem frameI (t : ByteArray) (w : World) (hs : t.size ≤ maxLen) (he : Text.Tens w) : Calls Tryd.prog 9 #[.string t] w fun e w' => e = .returned (.string (Num.bytesOf (frT t.data.toList))) ∧ Below w.heap.size w w' := by
  have hs' := hs
  unfold maxLen at hs'
  by_cases hl : t.size ≤ 1000
  · rw [frT_of (by rw [toL]; exact hl)]
    obtain ⟨L1, e1, l1⟩ := dig_len (t.size : Int) (by omega) (by omega)
    obtain ⟨L2, e2, l2⟩ := dig_len (sumL t.data.toList) (sumL_bd _).1 (sumL_bd _).2
    have hc := frB_cat t L1 L2 e1 e2
    generalize Num.bytesOf (frB t.data.toList) = R at *
    have HC := hide hc; clear hc
    have hsz1 : (⟨L1.toArray⟩ : ByteArray).size = L1.length := by simp [ByteArray.size]
    have hsz2 : (⟨L2.toArray⟩ : ByteArray).size = L2.length := by simp [ByteArray.size]
    have hb := sumL_bd t.data.toList
    have hsum := sumI t
    generalize sumL t.data.toList = z at *
    have D1 := Text.itoaI (t.size : Int)
    have D2 := Text.itoaI z
    rw [e1] at D1; rw [e2] at D2
    have HD1 := hide D1; have HD2 := hide D2
    have HS := hide hsum
    clear D1 D2 e1 e2 hsum
    go_enter Tryd.func9, Tryd.ntmps9
    go_wp2_with (fail)
    refine (unhide HD1 _ (by omega) (by omega) he).mono ?_
    rintro e w1 ⟨rfl, hb1⟩
    go_wp2_with (fail)
    refine (unhide HS _ (by omega)).mono ?_
    rintro e w2 ⟨rfl, rfl⟩
    go_wp2_with (fail)
    refine (unhide HD2 _ (by omega) (by omega) (he.kept hb1)).mono ?_
    rintro e w3 ⟨rfl, hb3⟩
    go_wp2
    go_ret
    exact ⟨congrArg (fun x => Ending.returned (.string x)) (unhide HC), below_trans hb1 hb3⟩
  · rw [frT_no (by rw [toL]; exact hl)]
    go_enter Tryd.func9, Tryd.ntmps9
    go_wp2
    go_ret
    exact ⟨rfl, Below.refl _ _⟩

theorem ix_word : ∀ (a r : List UInt8), (∀ x ∈ a, x ≠ 32) → Lib.indexByte (a ++ 32 :: r) 32 = (a.length : Int)
  | [], r, _ => by simp [Lib.indexByte]
  | b :: a, r, h => by
    have hb : (b == 32) = false := by simpa using h b (by simp)
    have ih := ix_word a r (fun x hx => h x (List.mem_cons_of_mem _ hx))
    simp only [List.cons_append, Lib.indexByte, hb, ih]
    have : ((a.length : Int) == -1) = false := by simp
    simp [this]
theorem cut_word {a r : List UInt8} (h : ∀ x ∈ a, x ≠ 32) : Lib.cut (a ++ 32 :: r) [32] = (a, r, true) := by
  have e : Lib.index (a ++ 32 :: r) [32] = (a.length : Int) := by rw [Lib.index_one, ix_word a r h]
  unfold Lib.cut
  rw [e, if_pos (by omega)]
  simp
theorem cut_len32 (s : List UInt8) : (Lib.cut s [32]).1.length + (Lib.cut s [32]).2.1.length ≤ s.length := by
  unfold Lib.cut
  split <;> simp <;> omega
/-- where a frame begins a log, how it falls into words -/
theorem fr_cut {l t : List UInt8} (h : IsFr l t) : (Lib.cut l [32]).2.2 = true ∧ (Lib.cut l [32]).1 = Lib.itoa (t.length : Int) ∧ (Lib.cut (Lib.cut l [32]).2.1 [32]).2.2 = true ∧ ∃ y, (Lib.cut (Lib.cut l [32]).2.1 [32]).2.1 = t ++ 10 :: y := by
  obtain ⟨ht, y, e⟩ := h
  have e1 : l = Lib.itoa (t.length : Int) ++ 32 :: (Lib.itoa (sumL t) ++ 32 :: (t ++ 10 :: y)) := by
    rw [e]; unfold frB; simp
  have c1 := cut_word (a := Lib.itoa (t.length : Int)) (r := Lib.itoa (sumL t) ++ 32 :: (t ++ 10 :: y)) (no32 _)
  have c2 := cut_word (a := Lib.itoa (sumL t)) (r := t ++ 10 :: y) (no32 _)
  rw [e1, c1]
  refine ⟨rfl, rfl, ?_, y, ?_⟩
  · show (Lib.cut (Lib.itoa (sumL t) ++ 32 :: (t ++ 10 :: y)) [32]).2.2 = true
    rw [c2]
  · show (Lib.cut (Lib.itoa (sumL t) ++ 32 :: (t ++ 10 :: y)) [32]).2.1 = _
    rw [c2]

/-- the error that a reader panics with lies in its variable -/
def ErrAt (w : World) (tp : TypeId) (v : Value) : Prop := w.cell? ⟨0, 0, none⟩ = some (.iface tp v)
theorem ErrAt.kept {w w' : World} {tp : TypeId} {v : Value} (h : ErrAt w tp v) (hb : Below w.heap.size w w') : ErrAt w' tp v := by
  unfold ErrAt; rw [hb.cell (Text.cell_lt h)]; exact h
abbrev panicE (tp : TypeId) (v : Value) : Ending := .panicked [{ v := .iface tp v, recovered := false }]

/-- impl.readLogWord -/
theorem wordI (s : ByteArray) (tp : TypeId) (v : Value) (w : World) (hs : s.size ≤ 2000000) (he : Env w) (hv : ErrAt w tp v) :
    Calls Tryd.prog 41 #[.string s] w fun e w' => Below w.heap.size w w' ∧ (((Lib.cut s.data.toList [32]).2.2 = false ∧ e = panicE tp v) ∨ ((Lib.cut s.data.toList [32]).2.2 = true ∧ e = .returned (.tuple #[.string (Num.bytesOf (Lib.cut s.data.toList [32]).1), .string (Num.bytesOf (Lib.cut s.data.toList [32]).2.1)]))) := by
  obtain ⟨m, hm⟩ := he.2.1
  have hcut := Tryd.strings_Cut s ⟨#[32]⟩ m w (by omega) hm
  have e32 : (⟨#[32]⟩ : ByteArray).data.toList = [32] := rfl
  rw [e32] at hcut
  have hlen := cut_len32 s.data.toList
  rw [toL] at hlen
  unfold Num.bytesOf
  generalize (Lib.cut s.data.toList [32]).1 = W1 at *
  generalize (Lib.cut s.data.toList [32]).2.1 = W2 at *
  generalize (Lib.cut s.data.toList [32]).2.2 = fnd at *
  have HC := hide hcut
  clear hcut hm
  go_enter Tryd.func41, Tryd.ntmps41
  go_wp2_with (fail)
  refine (unhide HC).mono ?_
  rintro e w1 ⟨rfl, n1, rfl⟩
  clear HC
  have hb1 := Text.below_drew (w := w) n1
  have hv1 : (w.drewN n1).cell? ⟨0, 0, none⟩ = some (.iface tp v) := hv.kept hb1
  cases fnd
  · go_wp2
    exact ⟨rfl, hb1, rfl⟩
  · go_wp2
    go_ret2
    exact ⟨hb1, rfl⟩

/-- strconv.Atoi: the number, or an error -/
theorem atoiR (s : ByteArray) (w : World) (hs : s.size ≤ 2000000) (he : Env w) : Calls Tryd.prog 42 #[.string s] w fun e w' => Below w.heap.size w w' ∧ ((∃ k, Lib.atoiAll s.data.toList = .ok k ∧ e = .returned (.tuple #[.int .i64 k, .nilIface])) ∨ ∃ n tp p, (∀ k, Lib.atoiAll s.data.toList ≠ .ok k) ∧ e = .returned (.tuple #[.int .i64 n, .iface tp p])) := by
  cases hA : Lib.atoiAll s.data.toList
  · next v =>
    refine (Tryd.strconv_Atoi_ok s (by omega) v hA _).mono ?_
    rintro e w2 ⟨rfl, hw2⟩
    refine ⟨?_, .inl ⟨v, rfl, rfl⟩⟩
    rcases hw2 with rfl | ⟨t, rfl⟩
    · exact Below.refl _ _
    · exact Lib.bytesWorld_below _ _ _
  · obtain ⟨tp, p, hv⟩ := he.2.2.1
    refine (Tryd.strconv_Atoi_syntax_var s (by omega) hA tp p _ hv).mono ?_
    rintro e w2 ⟨N, rfl, hN, hcells, hb2⟩
    exact ⟨hb2, .inr ⟨_, _, _, fun k hk => (by cases hk), rfl⟩⟩
  · obtain ⟨tp, p, hv⟩ := he.2.2.2
    refine (Tryd.strconv_Atoi_range_var s (by omega) hA tp p _ hv).mono ?_
    rintro e w2 ⟨N, rfl, hN, hcells, hb2⟩
    exact ⟨hb2, .inr ⟨_, _, _, fun k hk => (by cases hk), rfl⟩⟩

/-- what readFrame gives of a log: the text whose frame begins it, or the panic -/
def FrOut (s : ByteArray) (tp : TypeId) (v : Value) (e : Ending) : Prop :=
  (∃ t : ByteArray, IsFr s.data.toList t.data.toList ∧ e = .returned (.tuple #[.string t, .int .i64 ((frB t.data.toList).length : Nat)])) ∨ ((∀ t, ¬ IsFr s.data.toList t) ∧ e = panicE tp v)
theorem FrOut.no {s : ByteArray} {tp : TypeId} {v : Value} (h : ∀ t, ¬ IsFr s.data.toList t) : FrOut s tp v (panicE tp v) := .inr ⟨h, rfl⟩

set_option maxRecDepth 4000 in
set_option maxHeartbeats 4000000 in
/-- impl.readFrame -/
theorem readFr (s : ByteArray) (tp : TypeId) (v : Value) (w : World) (hs : s.size ≤ 1000000) (he : Env w) (hv : ErrAt w tp v) :
    Calls Tryd.prog 36 #[.string s] w fun e w' => Below w.heap.size w w' ∧ FrOut s tp v e := by
  have hcut := fun t (h : IsFr s.data.toList t) => fr_cut h
  have hlen1 := cut_len32 s.data.toList
  rw [toL] at hlen1
  have hw1 := wordI s tp v w (by omega) he hv
  generalize (Lib.cut s.data.toList [32]).1 = W1 at *
  generalize (Lib.cut s.data.toList [32]).2.1 = R1 at *
  generalize (Lib.cut s.data.toList [32]).2.2 = fnd1 at *
  have hlen2 := cut_len32 R1
  have hw2 := fun w' => wordI (Num.bytesOf R1) tp v w' (by rw [bytesOf_size]; omega)
  rw [bytesOf_list] at hw2
  generalize (Lib.cut R1 [32]).1 = W2 at *
  generalize (Lib.cut R1 [32]).2.1 = R2 at *
  generalize (Lib.cut R1 [32]).2.2 = fnd2 at *
  have hR2 := bytesOf_size R2
  have hW1 := bytesOf_size W1
  have HCUT := hide hcut
  have HW1 := hide hw1
  have HW2 := hide hw2
  have HL2 := hide (show (Num.bytesOf R2).data.toList = R2 from bytesOf_list R2)
  have HL1 := hide (show (Num.bytesOf W1).data.toList = W1 from bytesOf_list W1)
  clear hcut hw1 hw2
  generalize Num.bytesOf R2 = X2 at *
  generalize Num.bytesOf W1 = X1 at *
  generalize Num.bytesOf R1 = Y1 at *
  generalize Num.bytesOf W2 = Y2 at *
  go_enter Tryd.func36, Tryd.ntmps36
  go_wp2_with (fail)
  refine (unhide HW1).mono ?_
  rintro e w1 ⟨hb1, ⟨rfl, rfl⟩ | ⟨rfl, rfl⟩⟩
  · have hno : FrOut s tp v (panicE tp v) := .no (fun t h => by have := (unhide HCUT t h).1; simp at this)
    go_wp2
    exact ⟨rfl, hb1, hno⟩
  go_wp2_with (fail)
  refine (unhide HW2 w1 (he.kept hb1) (hv.kept hb1)).mono ?_
  rintro e w2 ⟨hb2, ⟨rfl, rfl⟩ | ⟨rfl, rfl⟩⟩
  · have hno : FrOut s tp v (panicE tp v) := .no (fun t h => by have := (unhide HCUT t h).2.2.1; simp at this)
    go_wp2
    exact ⟨rfl, below_trans hb1 hb2, hno⟩
  have hb12 := below_trans hb1 hb2
  have he2 := he.kept hb12
  have hv2 := hv.kept hb12
  clear hb1 hb2 he hv
  go_wp2_with (fail)
  refine (atoiR X1 w2 (by omega) he2).mono ?_
  rintro e w3 ⟨hb3, ⟨n, hA, rfl⟩ | ⟨n, tp', p', hA, rfl⟩⟩
  · have hv3 : w3.cell? ⟨0, 0, none⟩ = some (.iface tp v) := hv2.kept hb3
    have hb13 := below_trans hb12 hb3
    have hnum := fun t (h : IsFr s.data.toList t) => (show n = (t.length : Int) ∧ t.length ≤ 1000 ∧ t.length < X2.size ∧ (X2.extract 0 t.length).data.toList = t from by
      have h1 := h.1
      obtain ⟨-, e1, -, y, e2⟩ := unhide HCUT t h
      rw [unhide HL1, e1, Num.atoi_itoa (by unfold Num.numOk; omega)] at hA
      refine ⟨(Lib.NumEnd.ok.inj hA).symm, h1, ?_, ?_⟩
      · rw [hR2, e2]; simp
      · have e3 := congrArg (fun l => l.take t.length) (unhide HL2)
        rw [e2] at e3
        simp [ByteArray.data_extract] at e3 ⊢
        rw [e3])
    have hnb := Num.atoi_bd hA
    have HNUM := hide hnum
    clear hnum hA HCUT HL1 HL2 HW1 HW2
    by_cases c1 : n < 0
    · have hno : FrOut s tp v (panicE tp v) := .no (fun t h => by have := (unhide HNUM t h).1; omega)
      go_wp2_with (fail)
      exact ⟨rfl, hb13, hno⟩
    by_cases c2 : 1000 < n
    · have hno : FrOut s tp v (panicE tp v) := .no (fun t h => by have := unhide HNUM t h; omega)
      go_wp2_with (fail)
      exact ⟨rfl, hb13, hno⟩
    by_cases c3 : (X2.size : Int) < n
    · have hno : FrOut s tp v (panicE tp v) := .no (fun t h => by have := unhide HNUM t h; omega)
      go_wp2_with (fail)
      exact ⟨rfl, hb13, hno⟩
    obtain ⟨nn, rfl⟩ := Int.eq_ofNat_of_zero_le (show 0 ≤ n by omega)
    have hnx : nn ≤ X2.size := by omega
    have hn1 : nn ≤ 1000 := by omega
    have hxs : (X2.extract 0 nn).size = nn := by rw [ByteArray.size_extract]; omega
    have HT := hide (fun t (h : IsFr s.data.toList t) => (show (X2.extract 0 nn).data.toList = t from by
      obtain ⟨e1, -, -, e2⟩ := unhide HNUM t h
      rw [show nn = t.length by omega]; exact e2))
    have hfr := hide (frameI (X2.extract 0 nn))
    clear HNUM
    generalize hx : X2.extract 0 nn = x at *
    have hxl : x.data.toList.length ≤ 1000 := by rw [toL, hxs]; exact hn1
    go_wp2_with (fail)
    refine (unhide hfr _ (by unfold maxLen; omega) (he2.kept hb3).1).mono ?_
    rintro e w4 ⟨rfl, hb4⟩
    have hv4 : w4.cell? ⟨0, 0, none⟩ = some (.iface tp v) := ErrAt.kept hv3 hb4
    have hb14 := below_trans hb13 hb4
    clear hb13 hb4 hb3 hv3 hv2 he2 hb12 hfr
    rw [frT_of hxl]
    have hpre := Tryd.strings_HasPrefix s (Num.bytesOf (frB x.data.toList)) w4
    rw [bytesOf_list] at hpre
    have hfs := bytesOf_size (frB x.data.toList)
    have hyes : Hid (Lib.hasPrefix s.data.toList (frB x.data.toList) = true → FrOut s tp v (.returned (.tuple #[.string x, .int .i64 ((frB x.data.toList).length : Nat)]))) := hide (fun h => by
      obtain ⟨y, e⟩ := List.isPrefixOf_iff_prefix.1 h
      exact .inl ⟨x, ⟨hxl, y, e.symm⟩, rfl⟩)
    have hno : Hid (Lib.hasPrefix s.data.toList (frB x.data.toList) = false → FrOut s tp v (panicE tp v)) := hide (fun h => .no (fun t ht => by
      have e := unhide HT t ht
      obtain ⟨h1, y, h2⟩ := ht
      have : Lib.hasPrefix s.data.toList (frB x.data.toList) = true := List.isPrefixOf_iff_prefix.2 ⟨y, by rw [e]; exact h2.symm⟩
      rw [h] at this; cases this))
    clear HT
    generalize Num.bytesOf (frB x.data.toList) = F at *
    generalize (frB x.data.toList).length = fl at *
    generalize Lib.hasPrefix s.data.toList (frB x.data.toList) = P at *
    have HP := hide hpre
    clear hpre
    go_wp2_with (fail)
    refine (unhide HP).mono ?_
    rintro e w5 ⟨rfl, rfl⟩
    cases P
    · have h := unhide hno rfl
      clear hno hyes
      go_wp2_with (fail)
      exact ⟨rfl, hb14, h⟩
    · have h := unhide hyes rfl
      clear hno hyes
      go_wp2_with (fail)
      go_ret2
      exact ⟨hb14, h⟩
  · have hno : FrOut s tp v (panicE tp v) := .no (fun t h => by
      have h1 := h.1
      have e1 := (unhide HCUT t h).2.1
      refine hA t.length ?_
      rw [unhide HL1, e1]
      exact Num.atoi_itoa (by unfold Num.numOk; omega))
    have hv3 : w3.cell? ⟨0, 0, none⟩ = some (.iface tp v) := hv2.kept hb3
    have hb13 := below_trans hb12 hb3
    clear hA HCUT
    go_wp2
    exact ⟨rfl, hb13, hno⟩
end Go.Proofs.YtpamdnkngedmaaaDoor.Fr
