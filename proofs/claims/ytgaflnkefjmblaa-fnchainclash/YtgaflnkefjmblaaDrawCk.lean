/-
  DrawChainClash.
-/
import Derived.Test.YtgaflnkefjmblaaDrawCl
namespace Go.Proofs.Ytgaflnkefjmblaa.Draw
set_option linter.unusedVariables false
open Go.RowKit
open Txt (S0 TC TR)

theorem growSet (w : World) (b o : Nat) (u : Value) : w.grownBy (w.setCell ⟨b, o, none⟩ u) (some b) := by
  refine ⟨rfl, rfl, rfl, ?_, ?_⟩
  · simp
  · intro j hj hne
    exact Below.heap_setCell w ⟨b, o, none⟩ u j (fun e => hne (by rw [e]))
theorem IsTx.tf {l : List ByteArray} (h : IsTx l) : IsTf l := ⟨h.1, fun u hu => by have := h.2 u hu; omega⟩
theorem tr_take {W : World} {B g c : Nat} {l : List ByteArray} (h : TN W B (.slice (some ⟨g, 0, none⟩) l.length c) l) {k : Nat} (hk : k < l.length) (c' : Nat) : TR W (.slice (some ⟨g, 0, none⟩) k c') (l.take k) := by
  have hlt := (h.lt g rfl).2
  have hlen : (l.take k).length = k := by simp; omega
  refine .inr ⟨g, 0, c', by rw [hlen], hlt, fun i hi => ?_⟩
  rw [hlen] at hi
  rw [Nat.zero_add, h.at_ (k := i) (by omega)]
  simp [List.getD, hi]
theorem tf_take {l : List ByteArray} (h : IsTx l) (k : Nat) : IsTf (l.take k) := ⟨by have := h.1; simp; omega, fun u hu => by have := h.2 u (List.mem_of_mem_take hu); omega⟩
theorem tf_set {l : List ByteArray} (h : IsTx l) (k : Nat) {z : ByteArray} (hz : z.size ≤ 12) : IsTf (l.set k z) :=
  ⟨by have := h.1; simpa using this, fun u hu => by
    rcases List.mem_or_eq_of_mem_set hu with hu | rfl
    · have := h.2 u hu; omega
    · exact hz⟩

set_option maxHeartbeats 4000000 in
theorem drawClash (a : Option Addr) (len cap : Nat) (w : World) (h : Bytes w a len cap) :
    Calls Try.prog 11 #[.slice a len cap] w fun e w' => ∃ va vb A B, e = .returned (.tuple #[va, vb]) ∧ TR w' va A ∧ TR w' vb B ∧ IsTx A ∧ IsTf B ∧ (∃ x c, va = .slice x A.length c) ∧ (∃ x c, vb = .slice x B.length c) ∧ Below w.heap.size w w' := by
  go_enter Try.func11, Try.ntmps11
  go_wp2_with fail
  refine (openR a len cap w h).mono ?_
  rintro e w1 ⟨rfl, hR1, hb1⟩
  have l1 := hR1.lt
  go_wp2_with fail
  refine (textsD w.heap.size 0 w1 hR1 (by omega)).mono ?_
  rintro e w2 ⟨v, A, rfl, ta, iA, ⟨p, hp, hR2⟩, hg2⟩
  have hb2 := below_of hb1 (Nat.le_refl _) hg2
  obtain ⟨xa, ca, rfl⟩ := ta.form
  have hown : ∀ q, (Value.slice xa A.length ca).ownBlock = some q → w1.heap.size ≤ q ∧ q < w2.heap.size := ta.lt
  have TA := hide ta
  have IA := hide iA
  have z2 := hg2.size
  have l5 := iA.1
  clear ta iA hg2 hR1 hb1
  have N0 := TN.new w2 w2.heap.size (Nat.le_refl _)
  have bN : Below w2.heap.size w2 (w2.alloc (.cells #[] 9)) := (Below.refl _ _).alloc (Nat.le_refl _) _
  have HAN := hide ((unhide TA).tr.kept bN)
  have HN0 := hide N0
  have HBN := hide bN
  clear N0 bN
  go_wp2_with (first
    | (at_builtin
       refine listAppTx _ rfl _ _ rfl w2.heap.size ca A.length 0 (some ⟨w2.heap.size, 0, none⟩) xa 0 [] A rfl rfl rfl (unhide HN0) rfl (unhide HAN) (by omega) (by simp; omega) (by simp) ?_
       intro g1 c1 w3 t3 hc3 hg3
       have b3 : Below w2.heap.size w2 w3 := (unhide HBN).grown hg3 (by simp) (fun k e => by simp [Value.ownBlock] at e; omega)
       have T3 : Hid (TN w3 w2.heap.size (.slice g1 A.length c1) A) := hide (by simpa using t3)
       have TA3 := hide ((unhide TA).below b3)
       have hR3 := hR2.kept (grown_of_below b3 none) (by simp)
       have hb3 := below_trans hb2 b3
       have z3 := b3.size
       have hc3' : A.length ≤ c1 := by omega
       clear t3 b3 hg3 HAN HN0 HBN hR2 hb2 hc3)
    | fail)
  · rename_i hpos
    obtain ⟨g, rfl⟩ : ∃ g, g1 = some ⟨g, 0, none⟩ := by
      rcases (unhide T3).2 with ⟨_, h0⟩ | ⟨g, cap, cur, e1, _⟩
      · omega
      · simp only [Value.slice.injEq, true_and] at e1
        exact ⟨g, e1.1⟩
    have gl := (unhide T3).lt g rfl
    have hpos' : (0 : Int) < (A.length : Int) := by omega
    refine (pick 3 w.heap.size p w3 hR3 (by omega)).mono ?_
    rintro e w4 ⟨r, rfl, r0, r1, hR4, hg4⟩
    have T4 := hide ((unhide T3).kept hg4 (by intro j e; cases e; simp [Value.ownBlock]; omega))
    have TA4 := hide ((unhide TA3).kept hg4 (by intro j e; cases e; intro e2; have := (hown _ e2).1; omega))
    have hb4 := below_of hb3 (Nat.le_refl _) hg4
    have z4 := hg4.size
    clear T3 TA3 hR3 hb3 hg4 r1
    by_cases hr : 0 < r
    · go_wp2_with fail
      refine (pick (A.length : Int) w.heap.size (p + 1) w4 hR4 (by omega)).mono ?_
      rintro e w5 ⟨kk, rfl, k0, k1, hR5, hg5⟩
      obtain ⟨k, rfl⟩ := Int.eq_ofNat_of_zero_le k0
      have hk : k < A.length := by omega
      have T5 := hide ((unhide T4).kept hg5 (by intro j e; cases e; simp [Value.ownBlock]; omega))
      have TA5 := hide ((unhide TA4).kept hg5 (by intro j e; cases e; intro e2; have := (hown _ e2).1; omega))
      have hb5 := below_of hb4 (Nat.le_refl _) hg5
      have z5 := hg5.size
      clear T4 TA4 hR4 hb4 hg5 k0 k1 r0
      go_wp2_with fail
      refine (pick 3 w.heap.size (p + 1 + 1) w5 hR5 (by omega)).mono ?_
      rintro e w6 ⟨s, rfl, s0, s1, hR6, hg6⟩
      have T6 := hide ((unhide T5).kept hg6 (by intro j e; cases e; simp [Value.ownBlock]; omega))
      have TA6 := hide ((unhide TA5).kept hg6 (by intro j e; cases e; intro e2; have := (hown _ e2).1; omega))
      have hb6 := below_of hb5 (Nat.le_refl _) hg6
      have z6 := hg6.size
      clear T5 TA5 hR5 hR6 hb5 hg6
      have i1 : (0 : Int) ≤ (k : Int) := by omega
      have i2 : (k : Int) < (A.length : Int) := by omega
      have c6 := (unhide T6).at_ hk
      have f6 := (unhide T6).froz k
      have hxs : (A.getD k S0).size ≤ 10 := (unhide IA).2 _ (by simp [List.getD, hk])
      have HK := hide hk
      rcases (show s = 0 ∨ s = 1 ∨ s = 2 by omega) with rfl | rfl | rfl
      · generalize A.getD k S0 = x at *
        have hsz : ¬ 9223372036854775807 < x.size + 1 := by omega
        have HX := hide hxs
        clear hxs s0 s1
        go_wp2
        go_ret2
        have ts := (unhide T6).set (unhide HK) (x ++ ⟨#[120]⟩ : ByteArray)
        have hz : (x ++ ⟨#[120]⟩ : ByteArray).size ≤ 12 := by rw [ByteArray.size_append]; have := unhide HX; show x.size + 1 ≤ 12; omega
        exact ⟨.slice xa A.length ca, .slice (some ⟨g, 0, none⟩) A.length c1, A, A.set k (x ++ ⟨#[120]⟩ : ByteArray), rfl, ((unhide TA6).kept (growSet w6 g k _) (by intro j e; cases e; intro e2; have := (hown _ e2).2; omega)).tr, ts.tr, unhide IA, tf_set (unhide IA) k hz, ⟨_, _, rfl⟩, ⟨_, _, by rw [List.length_set]⟩, hb6.setCell (p := ⟨g, k, none⟩) (by simp; omega) _⟩
      · clear hxs s0 s1 c6 f6
        go_wp2
        go_ret2
        exact ⟨.slice xa A.length ca, .slice (some ⟨g, 0, none⟩) k c1, A, A.take k, rfl, (unhide TA6).tr, tr_take (unhide T6) (unhide HK) c1, unhide IA, tf_take (unhide IA) k, ⟨_, _, rfl⟩, ⟨_, _, by rw [List.length_take, Nat.min_eq_left (by omega)]⟩, hb6⟩
      · clear hxs s0 s1 c6 f6
        go_wp2_with fail
        refine (forgedD _ A k w6 (unhide TA6).tr (unhide IA) hk).mono ?_
        rintro e w7 ⟨v', m, rfl, tm, hml, hmf, hb7⟩
        obtain ⟨xm, cm, rfl⟩ := tm.form
        have TM := hide tm.tr
        have TA7 := hide ((unhide TA6).tr.kept hb7)
        have HM := hide hmf
        have hb8 := below_trans hb6 hb7
        clear tm hmf hb7 hml
        go_wp2
        go_ret2
        exact ⟨_, _, A, m, rfl, unhide TA7, unhide TM, unhide IA, unhide HM, ⟨_, _, rfl⟩, ⟨_, _, rfl⟩, hb8⟩
    · obtain rfl : r = 0 := by omega
      go_wp2
      go_ret2
      exact ⟨_, _, A, A, rfl, (unhide TA4).tr, (unhide T4).tr, unhide IA, (unhide IA).tf, ⟨_, _, rfl⟩, ⟨_, _, rfl⟩, hb4⟩
  · go_ret2
    exact ⟨_, _, A, A, rfl, (unhide TA3).tr, (unhide T3).tr, unhide IA, (unhide IA).tf, ⟨_, _, rfl⟩, ⟨_, _, rfl⟩, hb3⟩
end Go.Proofs.Ytgaflnkefjmblaa.Draw
