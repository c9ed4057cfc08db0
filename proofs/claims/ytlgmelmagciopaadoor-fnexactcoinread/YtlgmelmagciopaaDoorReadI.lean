/-
  CoinRead, the program's: the amount whose text it is, if there is one.
-/
import Derived.Test.YtlgmelmagciopaaDoorReadMath
import Derived.Test.YtlgmelmagciopaaDoorShelfR
import Derived.Lib.AtoiErrMem
import Derived.Lib.Strings
namespace Go.Proofs.YtlgmelmagciopaaDoor.Text
set_option linter.unusedVariables false
open Go.RowKit Coin
open Dec (cat below2)

/-- what of the program's variables strconv and strings read -/
def Env (w : World) : Prop := Tens w ∧ (∃ m, w.cell? ⟨0, 0, none⟩ = some (.int .i64 m)) ∧ (∃ tp p, w.var? Tryd.prog "strconv.ErrSyntax" = some #[.iface tp p]) ∧ (∃ tp p, w.var? Tryd.prog "strconv.ErrRange" = some #[.iface tp p])

theorem cell_lt {w : World} {q : Addr} {v : Value} (h : w.cell? q = some v) : q.block < w.heap.size := by
  refine Nat.lt_of_not_le fun hn => ?_
  have h2 : w.heap[q.block]? = none := by simp; omega
  simp [World.cell?, h2] at h

theorem Env.kept {w w' : World} (h : Env w) (hb : Below w.heap.size w w') : Env w' := by
  obtain ⟨h1, ⟨m, h2⟩, ⟨t1, p1, h3⟩, ⟨t2, p2, h4⟩⟩ := h
  exact ⟨h1.kept hb, ⟨m, by rw [hb.cell (cell_lt h2)]; exact h2⟩, ⟨t1, p1, var_kept h3 hb⟩, ⟨t2, p2, var_kept h4 hb⟩⟩

theorem cut_len (s : List UInt8) : (Lib.cut s [46]).1.length + (Lib.cut s [46]).2.1.length ≤ s.length := by
  unfold Lib.cut
  split <;> simp <;> omega

theorem below_drew {w : World} (n : Nat) : Below w.heap.size w (w.drewN n) := ⟨rfl, rfl, rfl, Nat.le_refl _, fun _ _ => rfl⟩

set_option maxHeartbeats 800000 in
theorem readI (s : ByteArray) (w : World) (hs : s.size ≤ 2000000) (he : Env w) :
    Calls Tryd.prog 11 #[.string s] w fun e w' => e = .returned (.tuple #[.int .i64 ((readOf s.data.toList).getD 0), .bool (readOf s.data.toList).isSome]) ∧ Below w.heap.size w w' := by
  have hlen := cut_len s.data.toList
  have hsz : s.data.toList.length = s.size := Array.length_toList
  obtain ⟨m, hm⟩ := he.2.1
  have hcut := Tryd.strings_Cut s ⟨#[46]⟩ m w (by omega) hm
  have hr : readOf s.data.toList = match Lib.atoiAll ((Lib.cut s.data.toList [46]).1 ++ (Lib.cut s.data.toList [46]).2.1) with
    | .ok v => if textL v = s.data.toList then some v else none
    | _ => none := rfl
  have e46 : (⟨#[46]⟩ : ByteArray).data.toList = [46] := rfl
  rw [e46] at hcut
  generalize readOf s.data.toList = R at *
  generalize hW : (Lib.cut s.data.toList [46]).1 = W at *
  generalize hC : (Lib.cut s.data.toList [46]).2.1 = C at *
  generalize (Lib.cut s.data.toList [46]).2.2 = B at *
  have HR := hide hr; have HC := hide hcut
  clear hr hcut hW hC e46 hm
  have hl1 : W.length + C.length ≤ 2000000 := by omega
  clear hlen
  go_enter Tryd.func11, Tryd.ntmps11
  go_wp2_with fail
  refine (unhide HC).mono ?_
  rintro e w1 ⟨rfl, n1, rfl⟩
  clear HC
  go_wp2_with fail
  rw [cat]
  have hsz' : (⟨(W ++ C).toArray⟩ : ByteArray).size = W.length + C.length := by simp [ByteArray.size]
  cases hA : Lib.atoiAll (W ++ C)
  · next v =>
    have hv := Lib.atoiAll_bounds hA
    refine (Tryd.strconv_Atoi_ok ⟨(W ++ C).toArray⟩ (by omega) v (by simpa using hA) _).mono ?_
    rintro e w2 ⟨rfl, hw2⟩
    have hb2 : Below w.heap.size w w2 := by
      rcases hw2 with rfl | ⟨t, rfl⟩
      · exact below_drew n1
      · exact below2 (below_drew n1) (Lib.bytesWorld_below _ _ _)
    clear hw2 hsz'
    have HA := hide hA; clear hA
    go_wp2_with fail
    refine (textI v w2 ((he.kept hb2).1)).mono ?_
    rintro e w3 ⟨rfl, hb3⟩
    generalize hT : textL v = T
    have HT := hide hT; clear hT
    go_wp2
    · have hne : (!T == s.toList) = true := by assumption
      have hR : R = none := by
        rw [unhide HR, unhide HA]
        have : ¬ textL v = s.data.toList := by rw [unhide HT]; intro e; rw [e, Lib.toList_data] at hne; simp at hne
        simp only [this, if_false]
      go_ret2
      exact ⟨by rw [hR]; rfl, below2 hb2 hb3⟩
    · have heq : (!T == s.toList) = false := by assumption
      have hR : R = some v := by
        rw [unhide HR, unhide HA]
        have : textL v = s.data.toList := by rw [unhide HT]; rw [Lib.toList_data] at heq; simpa using heq
        simp only [this, if_true]
      go_ret2
      exact ⟨by rw [hR]; rfl, below2 hb2 hb3⟩
  · obtain ⟨tp, p, hv⟩ := (he.kept (below_drew n1)).2.2.1
    refine (Tryd.strconv_Atoi_syntax_var ⟨(W ++ C).toArray⟩ (by omega) (by simpa using hA) tp p _ hv).mono ?_
    rintro e w2 ⟨N, rfl, hN, hcells, hb2⟩
    have hR : R = none := by rw [unhide HR, hA]
    clear hcells hN hv hsz' hA
    subst hR
    go_wp2
    go_ret2
    exact ⟨rfl, below2 (below_drew n1) hb2⟩
  · obtain ⟨tp, p, hv⟩ := (he.kept (below_drew n1)).2.2.2
    refine (Tryd.strconv_Atoi_range_var ⟨(W ++ C).toArray⟩ (by omega) (by simpa using hA) tp p _ hv).mono ?_
    rintro e w2 ⟨N, rfl, hN, hcells, hb2⟩
    have hR : R = none := by rw [unhide HR, hA]
    clear hcells hN hv hsz' hA
    subst hR
    go_wp2
    go_ret2
    exact ⟨rfl, below2 (below_drew n1) hb2⟩
end Go.Proofs.YtlgmelmagciopaaDoor.Text
