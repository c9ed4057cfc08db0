/-
  FnLogRead.
-/
import Derived.Test.YtpamdnkngedmaaaDoorFrRI
import Derived.Test.YtpamdnkngedmaaaDoorDrawLg
namespace Go.Proofs.YtpamdnkngedmaaaDoor.Fr
set_option linter.unusedVariables false
open Go.RowKit
open _root_.Go.Proofs.YtpamdnkngedmaaaDoor.Text (Env)
open Txt (S0 TC TR waSm txt_eq)
open Draw (TN Bytes drawLog)

theorem Out.read {s : ByteArray} {ts : List ByteArray} {n : Nat} (h : Out s ts n) (hs : s.size ≤ 100000) : Read s.data.toList ts n := by
  unfold Out at h; rwa [if_pos hs] at h
theorem frs_take {ts : List ByteArray} {j : Nat} (h : j < ts.length) : frs (ts.take (j + 1)) = frs (ts.take j) ++ frB (ts.getD j S0).data.toList := by
  have e1 : ts.take (j + 1) = ts.take j ++ [ts.getD j S0] := by rw [List.take_add_one]; simp [List.getD, h]
  rw [e1, frs_append, frs_one]
theorem cat_bytes (a b : List UInt8) : Num.bytesOf a ++ Num.bytesOf b = Num.bytesOf (a ++ b) := by
  apply ext
  simp [Num.bytesOf]
theorem frs_take_le (ts : List ByteArray) (j : Nat) : (frs (ts.take j)).length ≤ (frs ts).length := by
  have : frs ts = frs (ts.take j) ++ frs (ts.drop j) := by rw [← frs_append, List.take_append_drop]
  rw [this]; simp

set_option maxRecDepth 4000 in
set_option maxHeartbeats 4000000 in
theorem lawLogR (a : Option Addr) (len cap : Nat) (tp : TypeId) (v : Value) (w : World) (h : Bytes w a len cap) (he : Env w) (hv : ErrAt w tp v) :
    Calls Tryd.prog 4 #[.slice a len cap] w fun e w' => e = .returned (.bool true) ∧ Below w.heap.size w w' := by
  have HBy := hide h
  by_cases hbig : 1048576 < len
  · have hbi : (1048576 : Int) < (len : Int) := by omega
    go_enter Tryd.func4, Tryd.ntmps4
    go_wp2
    go_ret
    exact ⟨rfl, Below.refl _ _⟩
  have hbi : (len : Int) ≤ 1048576 := by omega
  clear h
  go_enter Tryd.func4, Tryd.ntmps4
  go_wp2_with (fail)
  refine (drawLog a len cap w (unhide HBy)).mono ?_
  rintro e w1 ⟨s, rfl, hs, hb1⟩
  go_wp2_with (fail)
  refine (readI s tp v w1 (by unfold maxLen; omega) (he.kept hb1) (hv.kept hb1)).mono ?_
  rintro e w2 ⟨v1, ts, n, rfl, ht1, ho1, hb2⟩
  have T1 := hide ht1.tr
  go_wp2_with (fail)
  refine (readS s w2 (by unfold maxLen; omega)).mono ?_
  rintro e w3 ⟨v2, ts2, n2, rfl, ht2, ho2, hb3⟩
  obtain ⟨rfl, rfl⟩ := ho1.uniq ho2
  have hR := ho1.read (by omega)
  have hcnt := hR.1.count
  have hle := hR.1.le
  rw [toL] at hcnt hle
  have T3 := hide ((unhide T1).kept hb3)
  have T2 := hide ht2.tr
  have HR := hide hR
  have hb13 := below_trans hb1 (below_trans hb2 hb3)
  have HE := hide (he.kept hb13)
  have HB3 := hide hb13
  clear T1 ht1 ht2 ho1 ho2 hR hb1 hb2 hb3 hb13 HBy hv he
  go_wp2_with (fail)
  refine (waSm v1 v2 ts ts w3 (unhide T3) (unhide T2) (by unfold maxLen; omega) (by unfold maxLen; omega)).mono ?_
  rintro e w4 ⟨rfl, k4, rfl⟩
  have hd : decide (ts = ts) = true := by simp
  rw [hd]
  have hb4 : Below w3.heap.size w3 (w3.drewN k4) := ⟨rfl, rfl, rfl, Nat.le_refl _, fun _ _ => rfl⟩
  have T4 := hide ((unhide T3).kept hb4)
  have HE4 := hide ((unhide HE).kept hb4)
  have HB4 := hide (below_trans (unhide HB3) hb4)
  generalize w3.drewN k4 = W4 at *
  clear T3 T2 HB3 HE hb4 hd
  obtain ⟨ao, c, rfl⟩ := (unhide T4).form
  have hni : ¬ (s.size : Int) < (n : Int) := by omega
  have hni2 : decide (s.size < n) = false := decide_eq_false (by omega)
  go_wp2_with (fail)
  go_loopw [8, 9] (fun t8 t9 wr => ∃ j : Nat, j ≤ ts.length ∧ t9 = .int .i64 j ∧ t8 = .string (Num.bytesOf (frs (ts.take j))) ∧ Hid (Below W4.heap.size W4 wr)) (fun _ t9 _ => ts.length - (intOf t9).toNat)
  case atStart => exact ⟨0, Nat.zero_le _, rfl, rfl, hide (Below.refl _ _)⟩
  case round =>
    obtain ⟨j, hj, rfl, rfl, hb⟩ := hrel
    by_cases hlt : j < ts.length
    · rcases unhide T4 with ⟨h0, _⟩ | ⟨b, o, cp, hform, hc⟩
      · rw [h0] at hlt; simp at hlt
      simp only [Value.slice.injEq, true_and] at hform
      obtain ⟨rfl, rfl⟩ := hform
      have c0 := (hc.kept (unhide hb)).2 j hlt
      have i1 : (0 : Int) ≤ (j : Int) := by omega
      have i2 : (j : Int) < (ts.length : Int) := by omega
      have hsh : (ts.getD j S0).size ≤ 1000 := (unhide HR).1.1 _ (by simp [List.getD, hlt])
      have hst := frs_take hlt
      have hl1 := frs_take_le ts (j + 1)
      rw [hst, List.length_append] at hl1
      have hfl := (unhide HR).1.2.1
      rw [← hfl] at hl1
      clear hfl
      have hbz := bytesOf_size (frs (ts.take j))
      have hfz := bytesOf_size (frB (ts.getD j S0).data.toList)
      have HC := hide (cat_bytes (frs (ts.take j)) (frB (ts.getD j S0).data.toList))
      rw [← hst] at HC
      have HF := hide (frameI (ts.getD j S0))
      rw [frT_of (by rw [toL]; exact hsh)] at HF
      generalize ts.getD j S0 = x at *
      have hxz : Num.bytesOf (frs (ts.take j)) = Num.bytesOf (frs (ts.take j)) := rfl
      generalize Num.bytesOf (frB x.data.toList) = F at *
      generalize (frB x.data.toList).length = fl at *
      generalize (frs (ts.take j)).length = bl at *
      generalize Num.bytesOf (frs (ts.take j)) = G at *
      clear hst hxz hc
      go_wp2_with (fail)
      refine (unhide HF _ (by unfold maxLen; omega) ((unhide HE4).kept (unhide hb)).1).mono ?_
      rintro e w5 ⟨rfl, hb5⟩
      have B5 := hide (below_trans (unhide hb) hb5)
      clear hb5 hb HF c0
      go_wp2_with (fail)
      exact ⟨⟨j + 1, by omega, by simp, congrArg Value.string (unhide HC), B5⟩, by simp [intOf]; omega⟩
    · obtain rfl : j = ts.length := by omega
      have hfin : Num.bytesOf (frs (ts.take ts.length)) = s.extract 0 n := by
        apply ext
        rw [bytesOf_list, List.take_length, ext_list, (unhide HR).back]; simp
      rw [hfin]
      have hn0 : n ≤ s.size := hle
      generalize hx : s.extract 0 n = x at *
      go_wp2_with (fail)
      go_ret
      exact ⟨by simp, below_trans (unhide HB4) (unhide hb)⟩
end Go.Proofs.YtpamdnkngedmaaaDoor.Fr
