/-
  Rows of texts of the call's own, appended to; and the draws of texts (l8Texts, DrawChainHead, DrawChainHeads).
-/
import Derived.Test.YtpamdnkngedmaaaDoorTxR
import Derived.Test.YtpamdnkngedmaaaDoorRdW
import Derived.Deep.AppendLies
import Derived.Deep.Upon
import Derived.OwnWalk
namespace Go.Proofs.YtpamdnkngedmaaaDoor.Draw
set_option linter.unusedVariables false
open Go.RowKit
open Txt (S0 TC TR infoS)

theorem infoS' : ∃ i, Tryd.prog.info? 9 = some i ∧ i.zero = some (.string ByteArray.empty) ∧ i.size = 1 ∧ i.bytes = 16 := by
  obtain ⟨i, hi, h2⟩ := Option.map_eq_some_iff.1 infoS
  simp only [Prod.mk.injEq] at h2
  exact ⟨i, hi, h2.1, h2.2.1, h2.2.2⟩
/-- a row of texts of the call's own -/
def TN (W : World) (B : Nat) (v : Value) (l : List ByteArray) : Prop := W.ownsRow B 9 1 v l.length (l.map Value.string)
theorem TN.form {W : World} {B : Nat} {v : Value} {l : List ByteArray} (h : TN W B v l) : ∃ a c, v = .slice a l.length c := by
  obtain ⟨h1, h2⟩ := h
  rcases h2 with ⟨rfl, h0⟩ | ⟨g, cap, cur, rfl, _⟩
  · exact ⟨none, 0, by rw [h0]⟩
  · exact ⟨_, _, rfl⟩
theorem TN.kept {W W' : World} {B : Nat} {v : Value} {l : List ByteArray} {r : Option Nat} (h : TN W B v l) (hg : W.grownBy W' r) (hr : ∀ j, r = some j → v.ownBlock ≠ some j) : TN W' B v l :=
  World.ownsRow.kept h hg (by
    cases e : v.ownBlock with
    | none => exact .inl rfl
    | some b => exact .inr (fun e2 => hr b e2.symm e))
theorem TN.below {W W' : World} {B : Nat} {v : Value} {l : List ByteArray} (h : TN W B v l) (hb : Below W.heap.size W W') : TN W' B v l :=
  h.kept (grown_of_below hb none) (by simp)
theorem TN.lt {W : World} {B : Nat} {v : Value} {l : List ByteArray} (h : TN W B v l) : ∀ q, v.ownBlock = some q → B ≤ q ∧ q < W.heap.size := World.ownsRow.lt h
theorem TN.tr {W : World} {B : Nat} {v : Value} {l : List ByteArray} (h : TN W B v l) : TR W v l := by
  have hc := h
  obtain ⟨h1, h2⟩ := h
  rcases h2 with ⟨rfl, h0⟩ | ⟨g, cap, cur, rfl, hB, hblk, _⟩
  · exact .inl ⟨List.length_eq_zero_iff.1 h0, none, 0, rfl⟩
  · have hlt : g < W.heap.size := by
      refine Nat.lt_of_not_le fun hle => ?_
      rw [Array.getElem?_eq_none hle] at hblk; simp at hblk
    refine .inr ⟨g, 0, cap, rfl, hlt, fun i hi => ?_⟩
    have := World.ownsRow.cells hc rfl i (.string (l.getD i S0)) (by simp [List.getD, hi])
    rwa [Addr.add_lit] at this
theorem grown_far {a b c : World} {r : Option Nat} {g : Nat} (h : a.grownBy b r) (k : b.grownBy c (some g)) (hg : a.heap.size ≤ g) : a.grownBy c r :=
  ⟨k.os.trans h.os, k.tape.trans h.tape, k.output.trans h.output, Nat.le_trans h.size k.size, fun j hj hne => (k.block j (Nat.lt_of_lt_of_le hj h.size) (by intro e; injection e with e; omega)).trans (h.block j hj hne)⟩
/-- a new row without texts -/
theorem TN.new (w : World) (B : Nat) (hB : B ≤ w.heap.size) : TN (w.alloc (.cells #[] 9)) B (.slice (some ⟨w.heap.size, 0, none⟩) 0 0) [] :=
  ⟨by simp, .inr ⟨w.heap.size, 0, #[], rfl, hB, (MapKept.heap_alloc w _).1, by simp, by unfold maxLen; omega, by simp, by simp⟩⟩

section
variable {ops : Array Oper} {o : Oper} {a : Act} {Q : Exit → Act → World → Prop}
/-- texts more -/
theorem listAppT (w : World) {rest : List Oper} (hgd : o.guard = none) (s x : Operand) (ho : o.op = .call { callee := .builtin .append, args := #[s, x], argTypes := #[23, 23] })
    (B N c n k : Nat) (v : Value) (ws new : List ByteArray) (hn : new.length = n) (hk : ws.length = k) (hs : a.eval s = v) (hv : TN w B v ws) (hx : a.eval x = .slice (some ⟨N, 0, none⟩) n c) (hN : ∀ j y, new[j]? = some y → w.cell? ⟨N, j, none⟩ = some (.string y)) (hne : new ≠ []) (hl : ws.length + new.length ≤ 4000000) (hB : B ≤ w.heap.size)
    (h : ∀ g cap w', TN w' B (.slice (some ⟨g, 0, none⟩) (k + n) cap) (ws ++ new) → w.grownBy w' v.ownBlock → g < w'.heap.size → wpList Tryd.prog ops Q rest (a.put o.dst (.slice (some ⟨g, 0, none⟩) (k + n) cap)) w') :
    wpList Tryd.prog ops Q (o :: rest) a w := by
  subst hn hk
  obtain ⟨i, hi, hz, hsz, hby⟩ := infoS'
  refine wpList_append_lies (P := Tryd.prog) w hgd s x 23 ho B 9 i _ 1 16 Tryd.underlying23 hi hz hsz hby rfl (by omega) v ws.length (ws.map Value.string) hs hv ⟨N, 0, none⟩ new.length c (new.map Value.string) hx (by simp) ?_ ?_ (List.length_pos_iff.2 hne) (by unfold maxLen; omega) (by omega) hB _ rfl ?_
  · intro j u hu
    rw [List.getElem?_map] at hu
    obtain ⟨y, hy, rfl⟩ := Option.map_eq_some_iff.1 hu
    rw [Addr.add_lit, Nat.zero_add]
    exact hN j y hy
  · intro u hu
    obtain ⟨y, _, rfl⟩ := List.mem_map.1 hu
    rfl
  · intro g cap w' h1 h2 h3 h4
    refine h g cap w' ?_ h2 h4
    unfold TN
    rw [List.map_append, List.length_append]
    exact h1
/-- texts more, as they lie in memory; none at all, perhaps -/
theorem listAppTx (w : World) {rest : List Oper} (hgd : o.guard = none) (s x : Operand) (ho : o.op = .call { callee := .builtin .append, args := #[s, x], argTypes := #[23, 23] })
    (B c n k : Nat) (sa xa : Option Addr) (sc : Nat) (ws new : List ByteArray) (hn : new.length = n) (hk : ws.length = k) (hs : a.eval s = .slice sa k sc) (hv : TN w B (.slice sa k sc) ws) (hx : a.eval x = .slice xa n c) (hN : TR w (.slice xa n c) new) (hsc : k ≤ sc) (hl : ws.length + new.length ≤ 4000000) (hB : B ≤ w.heap.size)
    (h : ∀ ga cap w', TN w' B (.slice ga (k + n) cap) (ws ++ new) → k + n ≤ cap → w.grownBy w' (Value.slice sa k sc).ownBlock → wpList Tryd.prog ops Q rest (a.put o.dst (.slice ga (k + n) cap)) w') :
    wpList Tryd.prog ops Q (o :: rest) a w := by
  obtain ⟨i, hi, hz, hsz, hby⟩ := infoS'
  by_cases hne : new = []
  · subst hne
    obtain rfl : n = 0 := hn.symm
    have hsrc : Src Tryd.prog i.size 23 (.slice xa 0 c) 0 [] w := by
      cases xa with
      | none => exact Src.ofNil w Tryd.underlying23 c
      | some ad => exact Src.ofSlice w Tryd.underlying23 ad 0 c [] (by simp) (fun j u hu => by simp at hu) (fun u hu => by cases hu)
    have hr := run_append_nothing (P := Tryd.prog) w 23 23 o.type 9 i Tryd.underlying23 hi sa k sc hsc _ hsrc
    refine wpList_plain hgd fun K hK => ?_
    unfold Oper.wp execOp
    simp only [ho, resolve, invoke, builtin, Sem.run_bind, Sem.run_pure, Result.andThen_ok, List.map_toArray, List.map_cons, List.map_nil, hs, hx, hr]
    exact hK _ _ (h sa sc w (by simpa using hv) (by omega) (World.grownBy.refl _ _))
  · subst hn hk
    rcases hN with ⟨h0, _⟩ | ⟨b, of, cap, he, hlt, hc⟩
    · exact absurd h0 hne
    simp only [Value.slice.injEq, true_and] at he
    obtain ⟨rfl, rfl⟩ := he
    refine wpList_append_lies (P := Tryd.prog) w hgd s x 23 ho B 9 i _ 1 16 Tryd.underlying23 hi hz hsz hby rfl (by omega) _ ws.length (ws.map Value.string) hs hv ⟨b, of, none⟩ new.length c (new.map Value.string) hx (by simp) ?_ ?_ (List.length_pos_iff.2 hne) (by unfold maxLen; omega) (by omega) hB _ rfl ?_
    · intro j u hu
      rw [List.getElem?_map] at hu
      obtain ⟨y, hy, rfl⟩ := Option.map_eq_some_iff.1 hu
      obtain ⟨hj, rfl⟩ := List.getElem?_eq_some_iff.1 hy
      rw [Addr.add_lit, hc j hj]
      simp [List.getD, hj]
    · intro u hu
      obtain ⟨y, _, rfl⟩ := List.mem_map.1 hu
      rfl
    · intro g cap' w' h1 h2 h3 h4
      have hT : TN w' B (.slice (some ⟨g, 0, none⟩) (ws.length + new.length) cap') (ws ++ new) := by
        unfold TN
        rw [List.map_append, List.length_append]
        exact h1
      refine h _ cap' w' hT ?_ h2
      rcases hT.2 with ⟨e, _⟩ | ⟨g2, cap2, cur, e, _, _, e2, _⟩
      · cases e
      · simp only [Value.slice.injEq] at e
        obtain ⟨_, _, rfl⟩ := e
        simpa using e2
end

/-- texts that are drawn -/
def IsTx (l : List ByteArray) : Prop := l.length ≤ 5 ∧ ∀ u ∈ l, u.size ≤ 10

set_option maxHeartbeats 1000000 in
/-- l8Texts -/
theorem textsD (b p : Nat) (w : World) (hR : Rd w b p) (hp : p ≤ 1000) :
    Calls Tryd.prog 18 #[.pointer (some ⟨b, 0, none⟩)] w fun e w' => ∃ v l, e = .returned v ∧ TN w' w.heap.size v l ∧ IsTx l ∧ (∃ q, q ≤ p + 6 ∧ Rd w' b q) ∧ w.grownBy w' (some b) := by
  have h0 := TN.new w w.heap.size (Nat.le_refl _)
  have hbw := hR.lt
  have hR1 : Rd (w.alloc (.cells #[] 9)) b p := hR.kept (World.grownBy_alloc w _ none) (by simp)
  have hg1 : w.grownBy (w.alloc (.cells #[] 9)) (some b) := World.grownBy_alloc w _ _
  obtain ⟨w1, hw1⟩ : ∃ w1, w.alloc (.cells #[] 9) = w1 := ⟨_, rfl⟩
  have hz1 : w1.heap.size = w.heap.size + 1 := by rw [← hw1]; simp
  rw [hw1] at h0 hR1 hg1
  have H0 := hide h0
  clear h0
  go_enter Tryd.func18, Tryd.ntmps18
  go_wp2_with (fail)
  clear hw1
  refine (pick 6 b p w1 hR1 (by omega)).mono ?_
  rintro e w2 ⟨r, rfl, r0, r1, hR2, hg2⟩
  obtain ⟨n, rfl⟩ := Int.eq_ofNat_of_zero_le r0
  have hn : n ≤ 5 := by omega
  have hg := grown_trans hg1 hg2
  have H2 := hide ((unhide H0).kept hg2 (by intro j e; cases e; simp [Value.ownBlock]; omega))
  clear r0 r1 hg2 hg1 hR1 H0 hR
  go_wp2
  go_loopw [3, 4] (fun t3 t4 wr => ∃ (l : List ByteArray) (g c j q : Nat), t4 = .int .i64 j ∧ t3 = .slice (some ⟨g, 0, none⟩) l.length c ∧ l.length + j ≤ 5 ∧ q + j ≤ p + 6 ∧ w.heap.size ≤ g ∧ Hid (∀ u ∈ l, u.size ≤ 10) ∧ Hid (TN wr w.heap.size (.slice (some ⟨g, 0, none⟩) l.length c) l) ∧ Rd wr b q ∧ w.grownBy wr (some b)) (fun _ t4 _ => (intOf t4).toNat)
  case atStart => exact ⟨[], w.heap.size, 0, n, p + 1, rfl, rfl, by simp; omega, by omega, Nat.le_refl _, hide (by simp), H2, hR2, hg⟩
  case round =>
    obtain ⟨l, g, c, j, q, rfl, rfl, hlj, hqj, hwg, hs, ht, hR, hg⟩ := hrel
    by_cases hj : 0 < j
    · have hji : (0 : Int) < (j : Int) := by omega
      go_wp2_with (fail)
      refine (wordOf (fun z => z.size ≤ 10) b q wr.heap.size 0 6 6 _ (hR.kept (World.grownBy_alloc wr _ none) (by simp)) (by omega) (by omega) (by omega) (by have := hR.lt; omega) (new_words (fun z => z.size ≤ 10) wr [⟨#[]⟩, ⟨#[97]⟩, ⟨#[98]⟩, ⟨#[99, 108, 111, 115, 101]⟩, ⟨#[112, 97, 121, 32, 49, 48, 48]⟩, ⟨#[117, 115, 101, 32, 101, 32, 103, 98, 32, 51]⟩] _ (by decide))).mono ?_
      rintro e w4 ⟨z, rfl, hz, hR4, hg4⟩
      have hg4' : wr.grownBy w4 (some b) := grown_trans (World.grownBy_alloc wr _ _) hg4
      have T4 := hide ((unhide ht).kept hg4' (by intro j e; cases e; simp [Value.ownBlock]; omega))
      have hG4 := grown_trans hg hg4'
      have hzw := hg.size
      have hz4 := hg4'.size
      have HS2 : Hid (∀ u ∈ l ++ [z], u.size ≤ 10) := hide (by
        intro u hu
        rcases List.mem_append.1 hu with h | h
        · exact unhide hs u h
        · rw [List.mem_singleton.1 h]; exact hz)
      have hb4 := hR4.lt
      clear hg4 hg hR ht hs
      go_wp2_with (first
        | (at_builtin
           refine listAppT _ rfl _ _ rfl w.heap.size w4.heap.size 1 1 l.length (.slice (some ⟨g, 0, none⟩) l.length c) l [z] rfl rfl rfl ((unhide T4).kept (World.grownBy_alloc _ _ none) (by simp)) rfl (fun j y hy => ?_) (by simp) (by simp; omega) (by simp; omega) ?_
           · have e1 := (MapKept.heap_alloc w4 (.cells #[.string z] 9)).1
             match j, hy with
             | 0, hy => obtain rfl : z = y := by simpa using hy
                        simp only [World.cell?]; rw [e1]; rfl
           intro g2 c2 w5 ht5 hg5 hl5
           have hg5' : w4.grownBy w5 (some g) := grown_trans (World.grownBy_alloc w4 _ _) hg5
           have T5 := hide ht5
           clear ht5 hg5)
        | fail)
      exact ⟨⟨l ++ [z], g2, c2, j - 1, q + 1, by congr 1; omega, by simp, by simp; omega, by omega, ((unhide T5).lt g2 rfl).1, HS2, by simpa using T5, hR4.kept hg5' (fun k e => by cases e; omega), grown_far hG4 hg5' hwg⟩, by simp [intOf]; omega⟩
    · obtain rfl : j = 0 := by omega
      go_wp2
      go_ret
      exact ⟨_, l, rfl, unhide ht, ⟨by omega, unhide hs⟩, ⟨q, by omega, hR⟩, hg⟩

/-- DrawChainHead -/
theorem drawHead (a : Option Addr) (len cap : Nat) (w : World) (h : Bytes w a len cap) :
    Calls Tryd.prog 7 #[.slice a len cap] w fun e w' => ∃ v l, e = .returned v ∧ TN w' w.heap.size v l ∧ IsTx l ∧ Below w.heap.size w w' := by
  go_enter Tryd.func7, Tryd.ntmps7
  go_wp2_with fail
  refine (openR a len cap w h).mono ?_
  rintro e w1 ⟨rfl, hR1, hb1⟩
  go_wp2_with fail
  refine (textsD w.heap.size 0 w1 hR1 (by omega)).mono ?_
  rintro e w2 ⟨v, l, rfl, ht, hI, _, hg⟩
  have hb2 := below_of hb1 (Nat.le_refl _) hg
  obtain ⟨x, c, rfl⟩ := ht.form
  have T := hide (show TN w2 w.heap.size (.slice x l.length c) l from ⟨ht.1, by
    rcases ht.2 with h0 | ⟨g, cap, cur, e1, e2, e3⟩
    · exact .inl h0
    · exact .inr ⟨g, cap, cur, e1, by have := hb1.size; omega, e3⟩⟩)
  have HI := hide hI
  clear ht hI hg
  go_wp2
  go_ret
  exact ⟨_, l, rfl, unhide T, unhide HI, hb2⟩

end Go.Proofs.YtpamdnkngedmaaaDoor.Draw
