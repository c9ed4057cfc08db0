/-
  l2Steps, DrawRuleStep: drawn steps and a drawn number.
-/
import Derived.Test.YtdpefmjlmpjjbaaRd2
import Derived.Test.YtdpefmjlmpjjbaaApp2
import Derived.Test.YtdpefmjlmpjjbaaTiers
namespace Go.Proofs.Ytdpefmjlmpjjbaa.Draw
set_option linter.unusedVariables false
open Go.RowKit App2
open Tiers (T T0 TR TC)

def isAny (z : Int) : Prop := True
def isNum (z : Int) : Prop := -1000000000000001 ≤ z ∧ z ≤ 1000000000000001

abbrev fT : T → Value := fun t => .int .i64 t.1
abbrev gT : T → Value := fun t => .int .i64 t.2
abbrev OwnT (W : World) (B b cap : Nat) (l : List T) : Prop := Own2 56 fT gT W B b cap l

theorem infoEx : ∃ i, Try.prog.info? 56 = some i ∧ i.zero = some (.agg #[.int .i64 0, .int .i64 0]) ∧ i.size = 2 ∧ i.bytes = 16 := by
  obtain ⟨i, hi, h2⟩ := Option.map_eq_some_iff.1 Tiers.infoT
  simp only [Prod.mk.injEq] at h2
  exact ⟨i, hi, h2.1, h2.2.1, h2.2.2⟩

theorem OwnT.tr {W : World} {B b cap : Nat} {l : List T} (h : OwnT W B b cap l) : TR W (.slice (some ⟨b, 0, none⟩) l.length cap) l := by
  refine .inr ⟨b, 0, cap, rfl, h.lt.2, fun i hi => ?_⟩
  have := h.cells i (l.getD i T0) (by simp [List.getD, hi])
  rw [Nat.zero_add]
  exact this

theorem ownsRow_le {w : World} {base base' size n : Nat} {e : TypeId} {v : Value} {xs : List Value} (h : w.ownsRow base e size v n xs) (hb : base' ≤ base) : w.ownsRow base' e size v n xs := by
  obtain ⟨h1, h2⟩ := h
  refine ⟨h1, ?_⟩
  rcases h2 with h | ⟨g, cap, cur, h3, h4, h5⟩
  · exact .inl h
  · exact .inr ⟨g, cap, cur, h3, by omega, h5⟩

set_option maxHeartbeats 1600000 in
/-- l2Steps: one to three steps -/
theorem steps (b p : Nat) (w : World) (hR : Rd w b p) (hp : p ≤ 100000000) :
    Calls Try.prog 29 #[.pointer (some ⟨b, 0, none⟩)] w fun e w' => ∃ (g n c q : Nat) (l : List T), e = .returned (.slice (some ⟨g, 0, none⟩) n c) ∧ l.length = n ∧ n ≤ 3 ∧ OwnT w' w.heap.size g c l ∧ Rd w' b q ∧ p ≤ q ∧ q ≤ p + 10 ∧ w.grownBy w' (some b) := by
  obtain ⟨inf, hinf, hzero, hsize, hbytes⟩ := infoEx
  have hbw := hR.lt
  have HF : ∀ x : T, (fT x).oneCell' = true ∧ (gT x).oneCell' = true := fun x => ⟨rfl, rfl⟩
  go_enter Try.func29, Try.ntmps29
  go_wp2_with fail
  refine (pick _ b p _ (hR.kept (World.grownBy_alloc w _ none) (by simp)) (by omega)).mono ?_
  rintro e w1 ⟨r, rfl, r0, r1, hR1, hg1⟩
  obtain ⟨N, rfl⟩ := Int.eq_ofNat_of_zero_le r0
  have hN : N ≤ 2 := by omega
  have G1 : Hid (w.grownBy w1 (some b)) := hide (grown_trans (World.grownBy_alloc w _ _) hg1)
  have O1 : Hid (OwnT w1 w.heap.size w.heap.size 0 []) := hide (Own2.kept (Own2.new w w.heap.size (Nat.le_refl _)) hg1 (by simp; omega))
  have R1 := hide hR1
  have hs1 : w.heap.size < w1.heap.size := by have := hg1.size; simp at this; omega
  clear hg1 hR1 r0 r1 hR
  go_wp2_with fail
  go_loopw [3, 4] (fun o i wr => ∃ (k g c q : Nat) (l : List T), k ≤ N ∧ i = .int .i64 ((N : Int) - k) ∧ o = .slice (some ⟨g, 0, none⟩) k c ∧ l.length = k ∧ Hid (OwnT wr w.heap.size g c l) ∧ Hid (Rd wr b q) ∧ q = p + 1 + 2 * k ∧ Hid (w.grownBy wr (some b))) (fun _ i _ => (intOf i).toNat)
  case atStart => exact ⟨0, w.heap.size, 0, p + 1, [], Nat.zero_le _, by simp, rfl, rfl, O1, R1, by omega, G1⟩
  case round =>
    obtain ⟨k, g, c, q, l, hk, rfl, rfl, hl, h1, h2, hq, h3⟩ := hrel
    clear O1 R1 G1
    have hgl := (unhide h1).lt
    have hsz := (unhide h3).size
    by_cases hlt : k < N
    · go_wp2_with fail
      refine (num isAny b q wr.heap.size 0 5 5 _ ((unhide h2).kept (World.grownBy_alloc wr _ none) (by simp)) (by omega) (by omega) (by omega) (by omega) (new_nums isAny wr [1, 2, 10, 100, 1000] _ (fun _ _ => trivial))).mono ?_
      rintro e w3 ⟨x, rfl, _, hR3, hg3⟩
      have hw3 := hg3.size
      have hsz3 : wr.heap.size < w3.heap.size := by simp at hw3; omega
      go_wp2_with fail
      refine (num isAny b (q + 1) w3.heap.size 0 6 6 _ (hR3.kept (World.grownBy_alloc w3 _ none) (by simp)) (by omega) (by omega) (by omega) (by omega) (new_nums isAny w3 [0, 1, 5, 12, 300, 1000000000] _ (fun _ _ => trivial))).mono ?_
      rintro e w4 ⟨y, rfl, _, hR4, hg4⟩
      have hg5 : World.grownBy wr w4 (some b) := grown_trans (World.grownBy_alloc wr _ _) (grown_trans hg3 (grown_trans (World.grownBy_alloc w3 _ _) hg4))
      have O4 := hide ((unhide h1).kept hg5 (by simp; omega))
      have G4 := hide (grown_trans (unhide h3) hg5)
      have R4 := hide hR4
      have hs5 := hg5.size
      clear hg3 hg4 hg5 hR3 hR4 h1 h2 h3 hw3
      go_wp2_with (first
                         | (at_builtin
                            refine listApp2 (e := 56) (f := fT) (g := gT) _ Try.underlying24 hinf hzero hsize hbytes rfl (by omega) HF rfl _ _ rfl w.heap.size g c _ k l (x, y) hl rfl (Own2.kept (unhide O4) (World.grownBy_alloc _ _ none) (by simp)) rfl (MapKept.heap_alloc _ _).1 (by omega) (by simp; omega) ?_
                            intro gb cb w6 ho hgr hat hlt6
                            have hg7 : w4.grownBy w6 (some g) := grown_trans (World.grownBy_alloc _ _ _) hgr
                            have R6 := hide ((unhide R4).kept hg7 (fun q hq => by cases hq; omega))
                            have G6 : Hid (w.grownBy w6 (some b)) := hide (by
                              have hh := unhide G4
                              exact ⟨hg7.os.trans hh.os, hg7.tape.trans hh.tape, hg7.output.trans hh.output, Nat.le_trans hh.size hg7.size, fun j hj hne => (hg7.block j (by omega) (by simp; omega)).trans (hh.block j hj hne)⟩)
                            have O6 := hide ho
                            clear ho hgr hat hg7 R4 G4 O4))
      exact ⟨⟨k + 1, gb, cb, q + 1 + 1, _, by omega, by go_num, rfl, by rw [List.length_append, hl]; rfl, O6, R6, by omega, G6⟩, by simp [intOf]; omega⟩
    · obtain rfl : k = N := by omega
      go_wp2_with fail
      refine (num isAny b q wr.heap.size 0 5 5 _ ((unhide h2).kept (World.grownBy_alloc wr _ none) (by simp)) (by omega) (by omega) (by omega) (by omega) (new_nums isAny wr [0, 1, 3, 7, 250] _ (fun _ _ => trivial))).mono ?_
      rintro e w4 ⟨y, rfl, _, hR4, hg4⟩
      have hg5 : World.grownBy wr w4 (some b) := grown_trans (World.grownBy_alloc wr _ _) hg4
      have O4 := hide ((unhide h1).kept hg5 (by simp; omega))
      have G4 := hide (grown_trans (unhide h3) hg5)
      have R4 := hide hR4
      have hs5 := hg5.size
      clear hg4 hg5 hR4 h1 h2 h3
      go_wp2_with (first
                         | (at_builtin
                            refine listApp2 (e := 56) (f := fT) (g := gT) _ Try.underlying24 hinf hzero hsize hbytes rfl (by omega) HF rfl _ _ rfl w.heap.size g c _ k l (0, y) hl rfl (Own2.kept (unhide O4) (World.grownBy_alloc _ _ none) (by simp)) rfl (MapKept.heap_alloc _ _).1 (by omega) (by simp; omega) ?_
                            intro gb cb w6 ho hgr hat hlt6
                            have hg7 : w4.grownBy w6 (some g) := grown_trans (World.grownBy_alloc _ _ _) hgr
                            have R6 := hide ((unhide R4).kept hg7 (fun q hq => by cases hq; omega))
                            have G6 : Hid (w.grownBy w6 (some b)) := hide (by
                              have hh := unhide G4
                              exact ⟨hg7.os.trans hh.os, hg7.tape.trans hh.tape, hg7.output.trans hh.output, Nat.le_trans hh.size hg7.size, fun j hj hne => (hg7.block j (by omega) (by simp; omega)).trans (hh.block j hj hne)⟩)
                            have O6 := hide ho
                            clear ho hgr hat hg7 R4 G4 O4))
      go_ret
      exact ⟨gb, _, cb, q + 1, _, rfl, by rw [List.length_append, hl]; rfl, by omega, unhide O6, unhide R6, by omega, by omega, unhide G6⟩

end Go.Proofs.Ytdpefmjlmpjjbaa.Draw
