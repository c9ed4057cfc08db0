/-
  FnExactLogRead.
-/
import Derived.Test.YtpamdnkngedmaaaDoorFrRI
import Derived.Test.YtpamdnkngedmaaaDoorHeldTx
namespace Go.Proofs.YtpamdnkngedmaaaDoor.Fr
set_option linter.unusedVariables false
open Go.RowKit
open _root_.Go.Proofs.YtpamdnkngedmaaaDoor.Text (Env)
open Txt (S0 TC TR TO eqStr marksT marksT_len markStr heldStr)
open Draw (TN)

theorem TN.to {W : World} {B : Nat} {v : Value} {l : List ByteArray} (h : TN W B v l) (hne : l ≠ []) : ∃ b cap, v = .slice (some ⟨b, 0, none⟩) l.length cap ∧ TO W b l ∧ B ≤ b := by
  have hc := h.tr
  rcases h.2 with ⟨_, h0⟩ | ⟨g, cap, cur, rfl, hB, hblk, _⟩
  · exact absurd (List.length_eq_zero_iff.1 h0) hne
  · refine ⟨g, cap, rfl, ⟨?_, fun i => ?_⟩, hB⟩
    · rcases hc with ⟨h0, _⟩ | ⟨b, o, c, e, h2⟩
      · exact absurd h0 hne
      · simp only [Value.slice.injEq, Option.some.injEq, Addr.mk.injEq, and_true, true_and] at e
        obtain ⟨⟨rfl, rfl⟩, _⟩ := e
        exact h2
    · simp [World.frozen?, hblk]

/-- markStringS, at a slice of the call's own, empty or not -/
theorem markN (B : Nat) (v : Value) (l : List ByteArray) (k : Nat) (w : World) (h : TN w B v l) (hl : l.length ≤ 1048576) (h0 : 1 ≤ k) (h1 : k ≤ 100000000) :
    Calls Tryd.prog 16 #[v, .int .i64 (k : Int)] w fun e w' => e = .returned (.int .i64 ((k + l.length : Nat) : Int)) ∧ TR w' v (marksT k l.length) ∧ (∀ n, B ≥ n → Below n w w') := by
  by_cases hne : l = []
  · subst hne
    obtain ⟨a, c, rfl⟩ := h.form
    clear h
    simp only [List.length_nil]
    go_enter Tryd.func16, Tryd.ntmps16
    go_wp2
    refine wp_loop_rounds 1 ?_
    rw [rounds_succ]
    go_wp2
    go_ret
    exact ⟨by simp, .inl ⟨rfl, _, _, rfl⟩, fun n _ => Below.refl _ _⟩
  · obtain ⟨b, cap, rfl, hO, hB⟩ := TN.to h hne
    refine (markStr b cap l k w hO hl h0 h1).mono ?_
    rintro e w' ⟨rfl, hO2, hg⟩
    have := Txt.TO.tr (cap := cap) hO2
    rw [marksT_len] at this
    exact ⟨rfl, this, fun n hn => ⟨hg.os, hg.tape, hg.output, hg.size, fun j hj => hg.block j (by
      have := hO.1.1; omega) (by intro e; injection e with e; omega)⟩⟩

theorem Out.count {s : ByteArray} {ts : List ByteArray} {n : Nat} (h : Out s ts n) : ts.length ≤ 1048576 := by
  unfold Out at h
  split at h
  · have := h.1.count
    rw [toL] at this
    omega
  · rw [h.1]; simp

set_option maxHeartbeats 2000000 in
theorem lawRead (s : ByteArray) (tp : TypeId) (v : Value) (w : World) (hs : s.size ≤ maxLen) (he : Env w) (hv : ErrAt w tp v) :
    Calls Tryd.prog 6 #[.string s] w fun e w' => e = .returned (.bool true) ∧ Below w.heap.size w w' := by
  have hs' := hs
  unfold maxLen at hs'
  by_cases hbig : 1048576 < s.size
  · go_enter Tryd.func6, Tryd.ntmps6
    go_wp2
    go_ret
    exact ⟨rfl, Below.refl _ _⟩
  · go_enter Tryd.func6, Tryd.ntmps6
    go_wp2_with (fail)
    refine (readS s _ hs).mono ?_
    rintro e w1 ⟨v0, ts, n, rfl, ht0, ho0, hb1⟩
    have he1 := he.kept hb1
    have hv1 := hv.kept hb1
    go_wp2_with (fail)
    refine (readI s tp v w1 hs he1 hv1).mono ?_
    rintro e w2 ⟨v1, ts', n', rfl, ht1, ho1, hb2⟩
    obtain ⟨rfl, rfl⟩ := ho0.uniq ho1
    have hcnt := ho0.count
    have HO := hide ho0
    have T0 := hide ht0.tr
    have T1 := hide ht1
    have hz1 := hb1.size
    have HB1 := hide hb1
    have HB2 := hide hb2
    have HE := hide he1
    have HV := hide hv1
    clear ho0 ho1 hb1 hb2 he1 hv1 ht0 ht1 he hv
    go_wp2_with (fail)
    refine (eqStr v1 v0 ts ts w2 (unhide T1).tr ((unhide T0).kept (unhide HB2)) (by unfold maxLen; omega) (by unfold maxLen; omega)).mono ?_
    rintro e w3 ⟨rfl, k3, rfl⟩
    have hd : decide (ts = ts) = true := by simp
    rw [hd]
    have hb3 : Below w2.heap.size w2 (w2.drewN k3) := ⟨rfl, rfl, rfl, Nat.le_refl _, fun _ _ => rfl⟩
    have T3 := hide ((unhide T1).below hb3)
    have HB3 := hide (below_trans (unhide HB2) hb3)
    generalize w2.drewN k3 = W3 at *
    clear T1 HB2 hb3 hd
    go_wp2_with (fail)
    refine (markN w1.heap.size v1 ts 1 W3 (unhide T3) hcnt (by omega) (by omega)).mono ?_
    rintro e w4 ⟨rfl, hm, hbm⟩
    have HB4 := hide ((unhide HB3).trans (hbm _ (Nat.le_refl _)))
    have HM := hide hm
    clear hm hbm T3 HB3
    go_wp2_with (fail)
    refine (heldStr v1 ts.length 1 w4 (unhide HM) hcnt (by omega) (by omega)).mono ?_
    rintro e w5 ⟨rfl, hb5⟩
    have HB5 := hide ((unhide HB4).trans (hb5.mono (unhide HB4).size))
    have HM5 := hide ((unhide HM).kept hb5)
    have q1 : ¬ (((1 + ts.length : Nat) : Int) < 0) := by omega
    clear HM HB4 hb5
    go_wp2_with (fail)
    refine (readI s tp v w5 hs ((unhide HE).kept (unhide HB5)) ((unhide HV).kept (unhide HB5))).mono ?_
    rintro e w6 ⟨v2, ts2, n2, rfl, ht2, ho2, hb6⟩
    obtain ⟨rfl, rfl⟩ := (unhide HO).uniq ho2
    have T2 := hide ht2.tr
    have HB6 := hide ((unhide HB5).trans (hb6.mono (unhide HB5).size))
    have HM6 := hide ((unhide HM5).kept hb6)
    clear HM5 HB5 ht2 ho2 hb6
    go_wp2_with (fail)
    refine (eqStr v2 v0 ts ts w6 (unhide T2) ((unhide T0).kept (unhide HB6)) (by unfold maxLen; omega) (by unfold maxLen; omega)).mono ?_
    rintro e w7 ⟨rfl, k7, rfl⟩
    have hd : decide (ts = ts) = true := by simp
    rw [hd]
    have hb7 : Below w6.heap.size w6 (w6.drewN k7) := ⟨rfl, rfl, rfl, Nat.le_refl _, fun _ _ => rfl⟩
    have HB7 := hide ((unhide HB6).trans (hb7.mono (unhide HB6).size))
    have HM7 := hide ((unhide HM6).kept hb7)
    generalize w6.drewN k7 = W7 at *
    clear T2 HM6 HB6 hb7 hd
    go_wp2_with (fail)
    refine (heldStr v1 ts.length 1 W7 (unhide HM7) hcnt (by omega) (by omega)).mono ?_
    rintro e w8 ⟨rfl, hb8⟩
    have HB8 := hide ((unhide HB7).trans (hb8.mono (unhide HB7).size))
    clear HB7 hb8 HM7
    go_wp2_with (fail)
    go_ret
    exact ⟨rfl, (unhide HB1).trans ((unhide HB8).mono hz1)⟩
end Go.Proofs.YtpamdnkngedmaaaDoor.Fr
