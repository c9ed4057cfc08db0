/-
  Drawn arguments of SealCheck and SealMake.
-/
import Derived.Test.YtlmdpfhabiakmaaDoorDrawTok
import Derived.Deep.RegionHeld3
namespace Go.Proofs.YtlmdpfhabiakmaaDoor.Tok
set_option linter.unusedVariables false
open Go.RowKit
open Num (bytesOf)
open Mac (hide unhide below_trans macL macL_bd)
open Strs hiding hide unhide below_trans
open Boxes (At box1 box2)
open Draw (Rd pick num new_nums openR Bytes grown_trans below_of grown_of_below)

theorem Fin.below {w W : World} {b q : Nat} (h : Fin w W b q) {w0 : World} (h0 : Below w0.heap.size w0 w) (hb : w0.heap.size ≤ b) : Below w0.heap.size w0 W := below_of h0 hb h.2
/-- a reader of the call's own -/
theorem grown_toB {w W : World} {b B : Nat} (h : w.grownBy W (some b)) (hb : B ≤ b) (hB : B ≤ w.heap.size) : Below B w W := ⟨h.os, h.tape, h.output, h.size, fun j hj => h.block j (by omega) (by simp; omega)⟩
theorem at_fin {w W : World} {b q g : Nat} {cs : List Value} (h : Fin w W b q) (hA : At w g cs) (hg : g < w.heap.size) (hne : g ≠ b) : At W g cs := at_grown hA h.2 hg (by simpa using hne)
/-- drawn: a key, a tenant, a token, a time, an epoch -/
def CheckD (t r u e m ep : Int) : Prop := (-1 ≤ t ∧ t ≤ 12) ∧ Tk r u e m ∧ isE ep


set_option maxHeartbeats 2000000 in
set_option maxRecDepth 20000 in
theorem drawCheck (a : Option Addr) (len cap : Nat) (w : World) (h : Bytes w a len cap) :
    Calls Tryd.prog 4 #[.slice a len cap] w fun x w' => ∃ k t r u e m now ep : Int, x = .returned (.tuple #[.int .i64 k, .int .i64 t, tokV r u e m, .int .i64 now, .int .i64 ep]) ∧ CheckD t r u e m ep ∧ Below w.heap.size w w' := by
  have hA0 := At.new w #[.int .i64 0, .int .i64 0, .int .i64 0, .int .i64 0] 24
  have hb0 := below_alloc w (.cells #[.int .i64 0, .int .i64 0, .int .i64 0, .int .i64 0] 24)
  have hz0 : (w.alloc (.cells #[.int .i64 0, .int .i64 0, .int .i64 0, .int .i64 0] 24)).heap.size = w.heap.size + 1 := by simp
  have HBy := hide (h.kept hb0)
  have HA0 := hide hA0
  have HB0 := hide hb0
  clear h hA0 hb0
  go_enter Tryd.func4, Tryd.ntmps4
  go_wp2_with fail
  generalize w.alloc (.cells #[.int .i64 0, .int .i64 0, .int .i64 0, .int .i64 0] 24) = W0 at *
  refine (openR a len cap W0 (unhide HBy)).mono ?_
  rintro x w1 ⟨rfl, hR1, hb1⟩
  have HA1 := hide ((unhide HA0).below hb1 (by omega))
  have HB1 := hide (below_trans (unhide HB0) hb1)
  have hl1 := hR1.lt
  have HF1 : Hid (Fin w1 w1 W0.heap.size 0) := hide ⟨hR1, World.grownBy.refl _ _⟩
  clear hR1 hb1 HBy HA0 HB0
  rw [hz0] at *
  go_wp2_with fail
  refine (pick 2000 (w.heap.size + 1) 0 w1 (unhide HF1).1 (by omega)).mono ?_
  rintro x w2 ⟨k, rfl, k0, k1, hR2, hg2⟩
  have k2 : k ≤ 1999 := by omega
  have HF2 : Hid (Fin w1 w2 (w.heap.size + 1) 1) := hide ⟨hR2, grown_trans (unhide HF1).2 hg2⟩
  clear hR2 hg2 HF1 k1
  go_wp2_with fail
  refine (pick 4 (w.heap.size + 1) 1 w2 (unhide HF2).1 (by omega)).mono ?_
  rintro x w3 ⟨t, rfl, t0, t1, hR3, hg3⟩
  have t2 : t ≤ 3 := by omega
  have HF3 : Hid (Fin w1 w3 (w.heap.size + 1) 2) := hide ⟨hR3, grown_trans (unhide HF2).2 hg3⟩
  clear hR3 hg3 HF2 t1
  go_wp2_with fail
  refine (pick 3 (w.heap.size + 1) 2 w3 (unhide HF3).1 (by omega)).mono ?_
  rintro x w4 ⟨ep, rfl, e0, e1, hR4, hg4⟩
  have e2 : ep ≤ 2 := by omega
  have HF4 : Hid (Fin w1 w4 (w.heap.size + 1) 3) := hide ⟨hR4, grown_trans (unhide HF3).2 hg4⟩
  clear hR4 hg4 HF3 e1
  go_wp2_with fail
  refine (drawToken (w.heap.size + 1) 3 k t ep w4 (unhide HF4).1 (by omega) (by unfold i64; omega) (by unfold isE; omega)).mono ?_
  rintro x w5 ⟨r, u, e, m, rfl, hT, ⟨q, hq, hR5⟩, hg5⟩
  have HT := hide hT
  have hz5 : w1.heap.size ≤ w5.heap.size := Nat.le_trans (unhide HF4).2.size hg5.size
  have HF5 : Hid (Fin w1 (w5.alloc (.cells #[.int .i64 r, .int .i64 u, .int .i64 e, .int .i64 m] 24)) (w.heap.size + 1) q) := hide ⟨hR5.kept (grown_alloc _ _ none) (by simp), grown_trans (grown_trans (unhide HF4).2 hg5) (grown_alloc _ _ _)⟩
  have HN5 := hide (At.new w5 #[.int .i64 r, .int .i64 u, .int .i64 e, .int .i64 m] 24)
  have hz6 : (w5.alloc (.cells #[.int .i64 r, .int .i64 u, .int .i64 e, .int .i64 m] 24)).heap.size = w5.heap.size + 1 := by simp
  clear hR5 hg5 HF4 hT
  go_wp2_with fail
  generalize w5.alloc (.cells #[.int .i64 r, .int .i64 u, .int .i64 e, .int .i64 m] 24) = W5 at *
  refine (pick 12 (w.heap.size + 1) q W5 (unhide HF5).1 (by omega)).mono ?_
  rintro x w6 ⟨z, rfl, z0, z1, hR6, hg6⟩
  have HF6 : Hid (Fin w1 w6 (w.heap.size + 1) (q + 1)) := hide ⟨hR6, grown_trans (unhide HF5).2 hg6⟩
  have HN6 := hide (at_grown (unhide HN5) hg6 (by omega) (by simp; omega))
  have hz7 := hg6.size
  clear hR6 hg6 HF5 HN5 z1
  by_cases h0 : z = 0
  · subst h0
    go_wp2_with fail
    refine (pick 12 (w.heap.size + 1) (q + 1) w6 (unhide HF6).1 (by omega)).mono ?_
    rintro x w7 ⟨t', rfl, t0', t1', hR7, hg7⟩
    have t2' : t' ≤ 11 := by omega
    have HF7 : Hid (Fin w1 w7 (w.heap.size + 1) (q + 1 + 1)) := hide ⟨hR7, grown_trans (unhide HF6).2 hg7⟩
    have HN7 := hide (at_grown (unhide HN6) hg7 (by omega) (by simp; omega))
    have hz8 := hg7.size
    clear hR7 hg7 HF6 HN6 t1'
    have hgd := grown_drew (grown_alloc w7 (.cells #[.int .i64 0, .int .i64 3, .int .i64 4, .int .i64 9, .int .i64 10, .int .i64 50, .int .i64 51, .int .i64 2000] 3) none)
    have HGD := hide (grown_drew (grown_alloc w7 (.cells #[.int .i64 0, .int .i64 3, .int .i64 4, .int .i64 9, .int .i64 10, .int .i64 50, .int .i64 51, .int .i64 2000] 3) (some (w.heap.size + 1))))
    have HNm := hide (num isE (w.heap.size + 1) (q + 1 + 1) w7.heap.size 0 8 8 (w7.alloc (.cells #[.int .i64 0, .int .i64 3, .int .i64 4, .int .i64 9, .int .i64 10, .int .i64 50, .int .i64 51, .int .i64 2000] 3)).drew ((unhide HF7).1.kept hgd (by simp)) (by omega) (by omega) (by omega) (by have := (unhide HF7).1.lt; omega) (new_nums isE w7 [0, 3, 4, 9, 10, 50, 51, 2000] _ (by unfold isE; simp)))
    obtain ⟨⟨c0, c1, c2, c3⟩, _⟩ := at4 (unhide HN7)
    have HD : Hid (CheckD (t' - 1) r u e m (ep)) := hide ⟨by omega, unhide HT, by unfold isE; omega⟩
    have hne1 : ¬ w.heap.size = w5.heap.size := by omega
    have hne2 : ¬ w5.heap.size = w.heap.size := by omega
    have hl2 := (unhide HF7).1.lt
    clear hgd
    go_wp2_with fail
    go_region_held3 (fun w2 => w2.cell? ⟨w5.heap.size, 0, none⟩ = some (.int .i64 r) ∧ w2.cell? ⟨w5.heap.size, 1, none⟩ = some (.int .i64 u) ∧ w2.cell? ⟨w5.heap.size, 2, none⟩ = some (.int .i64 e) ∧ w2.cell? ⟨w5.heap.size, 3, none⟩ = some (.int .i64 m)) (go_keep)
      ((go_at_call 11; refine (unhide HNm).mono ?_; rintro x w8 ⟨now, rfl, hn, hR8, hg8⟩; have hg8' := grown_trans (unhide HGD) hg8; have HF8 : Hid (Fin w1 w8 (w.heap.size + 1) (q + 1 + 1 + 1)) := hide ⟨hR8, grown_trans (unhide HF7).2 hg8'⟩; have hN8 := at_grown (unhide HN7) hg8' (by omega) (by simp; omega); obtain ⟨⟨d0, d1, d2, d3⟩, _⟩ := at4 hN8; have hA8 := at_fin (unhide HF8) (unhide HA1) (by omega) (by omega); obtain ⟨⟨z0, z1, z2, z3⟩, y0, y1, y2, y3⟩ := at4 hA8; clear hg8 hg8' hR8 hn))
    clear c0 c1 c2 c3 d0 d1 d2 d3
    go_wp2_with fail
    exact bodyPost_ret (v := .tuple #[.int .i64 (k), .int .i64 (t' - 1), tokV r u e m, .int .i64 now, .int .i64 (ep)]) (by simp [results, Tryd.results4, go_sem, z0, z1, z2, z3]) rfl ⟨_, _, r, u, e, m, now, _, rfl, unhide HD, set4 ((unhide HB1).trans (grown_toB (unhide HF8).2 (by omega) (by omega))) (Nat.le_refl _) _ _ _ _⟩
  have h0' : (z == 0) = false := by simpa using h0
  by_cases h1 : z = 1
  · subst h1
    clear h0 h0'
    have hgd := grown_drew (grown_alloc w6 (.cells #[.int .i64 0, .int .i64 3, .int .i64 4, .int .i64 9, .int .i64 10, .int .i64 50, .int .i64 51, .int .i64 2000] 3) none)
    have HGD := hide (grown_drew (grown_alloc w6 (.cells #[.int .i64 0, .int .i64 3, .int .i64 4, .int .i64 9, .int .i64 10, .int .i64 50, .int .i64 51, .int .i64 2000] 3) (some (w.heap.size + 1))))
    have HNm := hide (num isE (w.heap.size + 1) (q + 1) w6.heap.size 0 8 8 (w6.alloc (.cells #[.int .i64 0, .int .i64 3, .int .i64 4, .int .i64 9, .int .i64 10, .int .i64 50, .int .i64 51, .int .i64 2000] 3)).drew ((unhide HF6).1.kept hgd (by simp)) (by omega) (by omega) (by omega) (by have := (unhide HF6).1.lt; omega) (new_nums isE w6 [0, 3, 4, 9, 10, 50, 51, 2000] _ (by unfold isE; simp)))
    obtain ⟨⟨c0, c1, c2, c3⟩, _⟩ := at4 (unhide HN6)
    have HD : Hid (CheckD (t) r u e m (ep)) := hide ⟨by omega, unhide HT, by unfold isE; omega⟩
    have hne1 : ¬ w.heap.size = w5.heap.size := by omega
    have hne2 : ¬ w5.heap.size = w.heap.size := by omega
    have hl2 := (unhide HF6).1.lt
    clear hgd
    go_wp2_with fail
    go_region_held3 (fun w2 => w2.cell? ⟨w5.heap.size, 0, none⟩ = some (.int .i64 r) ∧ w2.cell? ⟨w5.heap.size, 1, none⟩ = some (.int .i64 u) ∧ w2.cell? ⟨w5.heap.size, 2, none⟩ = some (.int .i64 e) ∧ w2.cell? ⟨w5.heap.size, 3, none⟩ = some (.int .i64 m)) (go_keep)
      ((go_at_call 11; refine (unhide HNm).mono ?_; rintro x w8 ⟨now, rfl, hn, hR8, hg8⟩; have hg8' := grown_trans (unhide HGD) hg8; have HF8 : Hid (Fin w1 w8 (w.heap.size + 1) (q + 1 + 1)) := hide ⟨hR8, grown_trans (unhide HF6).2 hg8'⟩; have hN8 := at_grown (unhide HN6) hg8' (by omega) (by simp; omega); obtain ⟨⟨d0, d1, d2, d3⟩, _⟩ := at4 hN8; have hA8 := at_fin (unhide HF8) (unhide HA1) (by omega) (by omega); obtain ⟨⟨z0, z1, z2, z3⟩, y0, y1, y2, y3⟩ := at4 hA8; clear hg8 hg8' hR8 hn))
    clear c0 c1 c2 c3 d0 d1 d2 d3
    go_wp2_with fail
    exact bodyPost_ret (v := .tuple #[.int .i64 (k + 1), .int .i64 (t), tokV r u e m, .int .i64 now, .int .i64 (ep)]) (by simp [results, Tryd.results4, go_sem, z0, z1, z2, z3]) rfl ⟨_, _, r, u, e, m, now, _, rfl, unhide HD, set4 ((unhide HB1).trans (grown_toB (unhide HF8).2 (by omega) (by omega))) (Nat.le_refl _) _ _ _ _⟩
  have h1' : (z == 1) = false := by simpa using h1
  by_cases h2 : z = 2
  · subst h2
    clear h0 h0' h1 h1'
    have hgd := grown_drew (grown_alloc w6 (.cells #[.int .i64 0, .int .i64 3, .int .i64 4, .int .i64 9, .int .i64 10, .int .i64 50, .int .i64 51, .int .i64 2000] 3) none)
    have HGD := hide (grown_drew (grown_alloc w6 (.cells #[.int .i64 0, .int .i64 3, .int .i64 4, .int .i64 9, .int .i64 10, .int .i64 50, .int .i64 51, .int .i64 2000] 3) (some (w.heap.size + 1))))
    have HNm := hide (num isE (w.heap.size + 1) (q + 1) w6.heap.size 0 8 8 (w6.alloc (.cells #[.int .i64 0, .int .i64 3, .int .i64 4, .int .i64 9, .int .i64 10, .int .i64 50, .int .i64 51, .int .i64 2000] 3)).drew ((unhide HF6).1.kept hgd (by simp)) (by omega) (by omega) (by omega) (by have := (unhide HF6).1.lt; omega) (new_nums isE w6 [0, 3, 4, 9, 10, 50, 51, 2000] _ (by unfold isE; simp)))
    obtain ⟨⟨c0, c1, c2, c3⟩, _⟩ := at4 (unhide HN6)
    have HD : Hid (CheckD (t) r u e m (ep + 1)) := hide ⟨by omega, unhide HT, by unfold isE; omega⟩
    have hne1 : ¬ w.heap.size = w5.heap.size := by omega
    have hne2 : ¬ w5.heap.size = w.heap.size := by omega
    have hl2 := (unhide HF6).1.lt
    clear hgd
    go_wp2_with fail
    go_region_held3 (fun w2 => w2.cell? ⟨w5.heap.size, 0, none⟩ = some (.int .i64 r) ∧ w2.cell? ⟨w5.heap.size, 1, none⟩ = some (.int .i64 u) ∧ w2.cell? ⟨w5.heap.size, 2, none⟩ = some (.int .i64 e) ∧ w2.cell? ⟨w5.heap.size, 3, none⟩ = some (.int .i64 m)) (go_keep)
      ((go_at_call 11; refine (unhide HNm).mono ?_; rintro x w8 ⟨now, rfl, hn, hR8, hg8⟩; have hg8' := grown_trans (unhide HGD) hg8; have HF8 : Hid (Fin w1 w8 (w.heap.size + 1) (q + 1 + 1)) := hide ⟨hR8, grown_trans (unhide HF6).2 hg8'⟩; have hN8 := at_grown (unhide HN6) hg8' (by omega) (by simp; omega); obtain ⟨⟨d0, d1, d2, d3⟩, _⟩ := at4 hN8; have hA8 := at_fin (unhide HF8) (unhide HA1) (by omega) (by omega); obtain ⟨⟨z0, z1, z2, z3⟩, y0, y1, y2, y3⟩ := at4 hA8; clear hg8 hg8' hR8 hn))
    clear c0 c1 c2 c3 d0 d1 d2 d3
    go_wp2_with fail
    exact bodyPost_ret (v := .tuple #[.int .i64 (k), .int .i64 (t), tokV r u e m, .int .i64 now, .int .i64 (ep + 1)]) (by simp [results, Tryd.results4, go_sem, z0, z1, z2, z3]) rfl ⟨_, _, r, u, e, m, now, _, rfl, unhide HD, set4 ((unhide HB1).trans (grown_toB (unhide HF8).2 (by omega) (by omega))) (Nat.le_refl _) _ _ _ _⟩
  have h2' : (z == 2) = false := by simpa using h2
  clear h0 h1 h2
  have hgd := grown_drew (grown_alloc w6 (.cells #[.int .i64 0, .int .i64 3, .int .i64 4, .int .i64 9, .int .i64 10, .int .i64 50, .int .i64 51, .int .i64 2000] 3) none)
  have HGD := hide (grown_drew (grown_alloc w6 (.cells #[.int .i64 0, .int .i64 3, .int .i64 4, .int .i64 9, .int .i64 10, .int .i64 50, .int .i64 51, .int .i64 2000] 3) (some (w.heap.size + 1))))
  have HNm := hide (num isE (w.heap.size + 1) (q + 1) w6.heap.size 0 8 8 (w6.alloc (.cells #[.int .i64 0, .int .i64 3, .int .i64 4, .int .i64 9, .int .i64 10, .int .i64 50, .int .i64 51, .int .i64 2000] 3)).drew ((unhide HF6).1.kept hgd (by simp)) (by omega) (by omega) (by omega) (by have := (unhide HF6).1.lt; omega) (new_nums isE w6 [0, 3, 4, 9, 10, 50, 51, 2000] _ (by unfold isE; simp)))
  obtain ⟨⟨c0, c1, c2, c3⟩, _⟩ := at4 (unhide HN6)
  have HD : Hid (CheckD (t) r u e m (ep)) := hide ⟨by omega, unhide HT, by unfold isE; omega⟩
  have hne1 : ¬ w.heap.size = w5.heap.size := by omega
  have hne2 : ¬ w5.heap.size = w.heap.size := by omega
  have hl2 := (unhide HF6).1.lt
  clear hgd
  go_wp2_with fail
  go_region_held3 (fun w2 => w2.cell? ⟨w5.heap.size, 0, none⟩ = some (.int .i64 r) ∧ w2.cell? ⟨w5.heap.size, 1, none⟩ = some (.int .i64 u) ∧ w2.cell? ⟨w5.heap.size, 2, none⟩ = some (.int .i64 e) ∧ w2.cell? ⟨w5.heap.size, 3, none⟩ = some (.int .i64 m)) (go_keep)
    ((go_at_call 11; refine (unhide HNm).mono ?_; rintro x w8 ⟨now, rfl, hn, hR8, hg8⟩; have hg8' := grown_trans (unhide HGD) hg8; have HF8 : Hid (Fin w1 w8 (w.heap.size + 1) (q + 1 + 1)) := hide ⟨hR8, grown_trans (unhide HF6).2 hg8'⟩; have hN8 := at_grown (unhide HN6) hg8' (by omega) (by simp; omega); obtain ⟨⟨d0, d1, d2, d3⟩, _⟩ := at4 hN8; have hA8 := at_fin (unhide HF8) (unhide HA1) (by omega) (by omega); obtain ⟨⟨z0, z1, z2, z3⟩, y0, y1, y2, y3⟩ := at4 hA8; clear hg8 hg8' hR8 hn))
  clear c0 c1 c2 c3 d0 d1 d2 d3
  go_wp2_with fail
  exact bodyPost_ret (v := .tuple #[.int .i64 (k), .int .i64 (t), tokV r u e m, .int .i64 now, .int .i64 (ep)]) (by simp [results, Tryd.results4, go_sem, z0, z1, z2, z3]) rfl ⟨_, _, r, u, e, m, now, _, rfl, unhide HD, set4 ((unhide HB1).trans (grown_toB (unhide HF8).2 (by omega) (by omega))) (Nat.le_refl _) _ _ _ _⟩
end Go.Proofs.YtlmdpfhabiakmaaDoor.Tok
