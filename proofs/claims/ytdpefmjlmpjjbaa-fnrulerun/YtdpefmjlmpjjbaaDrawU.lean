/-
  Drawn words and drawn uses: of, l2Uses.
-/
import Derived.Test.YtdpefmjlmpjjbaaRd2
import Derived.Test.YtdpefmjlmpjjbaaApp2
import Derived.Test.YtdpefmjlmpjjbaaUses
namespace Go.Proofs.Ytdpefmjlmpjjbaa.Draw
set_option linter.unusedVariables false
open Go.RowKit App2

/-- of: one of a list's words -/
theorem wordOf (Q : ByteArray → Prop) (b p g o len cap : Nat) (w : World) (hR : Rd w b p) (hp : p ≤ 1000000000) (hlen : 1 ≤ len) (hcap : len ≤ 9223372036854775807) (hgb : g ≠ b) (hc : ∀ i, i < len → ∃ z : ByteArray, Q z ∧ w.cell? ⟨g, o + i, none⟩ = some (.string z)) :
    Calls Try.prog 19 #[.pointer (some ⟨b, 0, none⟩), .slice (some ⟨g, o, none⟩) len cap] w fun e w' => ∃ z, e = .returned (.string z) ∧ Q z ∧ Rd w' b (p + 1) ∧ w.grownBy w' (some b) := by
  go_enter Try.func19, Try.ntmps19
  go_wp2_with fail
  refine (pick _ _ _ _ hR hp).mono ?_
  rintro e w' ⟨r, rfl, r0, r1, hR', hg⟩
  obtain ⟨k, rfl⟩ := Int.eq_ofNat_of_zero_le r0
  have hk : k < len := by omega
  obtain ⟨z, hQ, hz⟩ := hc k hk
  have hz' := hg.cell hz (by simpa using hgb)
  clear hz hc r1
  go_wp2
  go_ret
  exact ⟨z, rfl, hQ, hR', hg⟩

theorem new_words (Q : ByteArray → Prop) (w : World) (xs : List ByteArray) (t : TypeId) (h : ∀ z ∈ xs, Q z) : ∀ i, i < xs.length → ∃ z : ByteArray, Q z ∧ (w.alloc (.cells (xs.map Value.string).toArray t)).cell? ⟨w.heap.size, 0 + i, none⟩ = some (.string z) := by
  intro i hi
  refine ⟨xs[i], h _ (List.getElem_mem hi), ?_⟩
  have e1 := (MapKept.heap_alloc w (.cells (xs.map Value.string).toArray t)).1
  simp only [World.cell?]
  rw [e1]
  simp [hi]

abbrev fU : Uses.U → Value := fun u => .string u.1
abbrev gU : Uses.U → Value := fun u => .int .i64 u.2
abbrev OwnU (W : World) (B b cap : Nat) (l : List Uses.U) : Prop := Own2 34 fU gU W B b cap l
def isWord (z : ByteArray) : Prop := z.size ≤ 8
def isQty (z : Int) : Prop := True

theorem infoExU : ∃ i, Try.prog.info? 34 = some i ∧ i.zero = some (.agg #[.string ByteArray.empty, .int .i64 0]) ∧ i.size = 2 ∧ i.bytes = 24 := by
  obtain ⟨i, hi, h2⟩ := Option.map_eq_some_iff.1 Uses.infoU
  simp only [Prod.mk.injEq] at h2
  exact ⟨i, hi, h2.1, h2.2.1, h2.2.2⟩
theorem OwnU.ur {W : World} {B b cap : Nat} {l : List Uses.U} (h : OwnU W B b cap l) : Uses.UR W (.slice (some ⟨b, 0, none⟩) l.length cap) l := by
  refine .inr ⟨b, 0, cap, rfl, h.lt.2, fun i hi => ?_⟩
  have := h.cells i (l.getD i Uses.U0) (by simp [List.getD, hi])
  rw [Nat.zero_add]
  exact this

set_option maxHeartbeats 1600000 in
/-- l2Uses: at most three -/
theorem uses (b p : Nat) (w : World) (hR : Rd w b p) (hp : p ≤ 100000000) :
    Calls Try.prog 10 #[.pointer (some ⟨b, 0, none⟩)] w fun e w' => ∃ (g n c q : Nat) (l : List Uses.U), e = .returned (.slice (some ⟨g, 0, none⟩) n c) ∧ l.length = n ∧ n ≤ 3 ∧ OwnU w' w.heap.size g c l ∧ Rd w' b q ∧ p ≤ q ∧ q ≤ p + 10 ∧ w.grownBy w' (some b) := by
  obtain ⟨inf, hinf, hzero, hsize, hbytes⟩ := infoExU
  have hbw := hR.lt
  have HF : ∀ x : Uses.U, (fU x).oneCell' = true ∧ (gU x).oneCell' = true := fun x => ⟨rfl, rfl⟩
  go_enter Try.func10, Try.ntmps10
  go_wp2_with fail
  refine (pick _ b p _ (hR.kept (World.grownBy_alloc w _ none) (by simp)) (by omega)).mono ?_
  rintro e w1 ⟨r, rfl, r0, r1, hR1, hg1⟩
  obtain ⟨N, rfl⟩ := Int.eq_ofNat_of_zero_le r0
  have hN : N ≤ 3 := by omega
  have G1 : Hid (w.grownBy w1 (some b)) := Uses.hide (grown_trans (World.grownBy_alloc w _ _) hg1)
  have O1 : Hid (OwnU w1 w.heap.size w.heap.size 0 []) := Uses.hide (Own2.kept (Own2.new w w.heap.size (Nat.le_refl _)) hg1 (by simp; omega))
  have R1 := Uses.hide hR1
  have hs1 : w.heap.size < w1.heap.size := by have := hg1.size; simp at this; omega
  clear hg1 hR1 r0 r1 hR
  go_wp2_with fail
  go_loopw [3, 4] (fun o i wr => ∃ (k g c q : Nat) (l : List Uses.U), k ≤ N ∧ i = .int .i64 ((N : Int) - k) ∧ o = .slice (some ⟨g, 0, none⟩) k c ∧ l.length = k ∧ Hid (OwnU wr w.heap.size g c l) ∧ Hid (Rd wr b q) ∧ q = p + 1 + 2 * k ∧ Hid (w.grownBy wr (some b))) (fun _ i _ => (intOf i).toNat)
  case atStart => exact ⟨0, w.heap.size, 0, p + 1, [], Nat.zero_le _, by simp, rfl, rfl, O1, R1, by omega, G1⟩
  case round =>
    obtain ⟨k, g, c, q, l, hk, rfl, rfl, hl, h1, h2, hq, h3⟩ := hrel
    clear O1 R1 G1
    have hgl := (Uses.unhide h1).lt
    have hsz := (Uses.unhide h3).size
    by_cases hlt : k < N
    · go_wp2_with fail
      refine (wordOf isWord b q wr.heap.size 0 4 4 _ ((Uses.unhide h2).kept (World.grownBy_alloc wr _ none) (by simp)) (by omega) (by omega) (by omega) (by omega) (new_words isWord wr [⟨#[99, 97, 108, 108, 115]⟩, ⟨#[103, 98]⟩, ⟨#[115, 101, 97, 116, 115]⟩, ⟨#[120]⟩] _ (by
        intro z hz
        simp only [List.mem_cons, List.not_mem_nil, or_false] at hz
        rcases hz with rfl | rfl | rfl | rfl <;> (unfold isWord; decide)))).mono ?_
      rintro e w3 ⟨x, rfl, hxw, hR3, hg3⟩
      have hw3 := hg3.size
      have hsz3 : wr.heap.size < w3.heap.size := by simp at hw3; omega
      go_wp2_with fail
      refine (num isQty b (q + 1) w3.heap.size 0 11 11 _ (hR3.kept (World.grownBy_alloc w3 _ none) (by simp)) (by omega) (by omega) (by omega) (by omega) (new_nums isQty w3 [0, 1, 7, 99, 100, 101, 1500, 250000, -3, 1000000000000000, 1000000000000001] _ (fun _ _ => trivial))).mono ?_
      rintro e w4 ⟨y, rfl, _, hR4, hg4⟩
      have hg5 : World.grownBy wr w4 (some b) := grown_trans (World.grownBy_alloc wr _ _) (grown_trans hg3 (grown_trans (World.grownBy_alloc w3 _ _) hg4))
      have O4 := Uses.hide ((Uses.unhide h1).kept hg5 (by simp; omega))
      have G4 := Uses.hide (grown_trans (Uses.unhide h3) hg5)
      have R4 := Uses.hide hR4
      have hs5 := hg5.size
      clear hg3 hg4 hg5 hR3 hR4 h1 h2 h3 hw3 hxw
      go_wp2_with (first
                         | (at_builtin
                            refine listApp2 (e := 34) (f := fU) (g := gU) _ Try.underlying27 hinf hzero hsize hbytes rfl (by omega) HF rfl _ _ rfl w.heap.size g c _ k l (x, y) hl rfl (Own2.kept (Uses.unhide O4) (World.grownBy_alloc _ _ none) (by simp)) rfl (MapKept.heap_alloc _ _).1 (by omega) (by simp; omega) ?_
                            intro gb cb w6 ho hgr hat hlt6
                            have hg7 : w4.grownBy w6 (some g) := grown_trans (World.grownBy_alloc _ _ _) hgr
                            have R6 := Uses.hide ((Uses.unhide R4).kept hg7 (fun q hq => by cases hq; omega))
                            have G6 : Hid (w.grownBy w6 (some b)) := Uses.hide (by
                              have hh := Uses.unhide G4
                              exact ⟨hg7.os.trans hh.os, hg7.tape.trans hh.tape, hg7.output.trans hh.output, Nat.le_trans hh.size hg7.size, fun j hj hne => (hg7.block j (by omega) (by simp; omega)).trans (hh.block j hj hne)⟩)
                            have O6 := Uses.hide ho
                            clear ho hgr hat hg7 R4 G4 O4))
      exact ⟨⟨k + 1, gb, cb, q + 1 + 1, _, by omega, by go_num, rfl, by rw [List.length_append, hl]; rfl, O6, R6, by omega, G6⟩, by simp [intOf]; omega⟩
    · obtain rfl : k = N := by omega
      go_wp2_with fail
      go_ret
      exact ⟨g, _, c, q, l, rfl, hl, by omega, Uses.unhide h1, Uses.unhide h2, by omega, by omega, Uses.unhide h3⟩
end Go.Proofs.Ytdpefmjlmpjjbaa.Draw
