/-
  l2Rule: a drawn expression, bent now and then.
-/
import Derived.Test.YtdpefmjlmpjjbaaGenT
import Derived.Deep.RegionLaw
namespace Go.Proofs.Ytdpefmjlmpjjbaa.Draw
set_option linter.unusedVariables false
open Go.RowKit
open Rule (Ex EV ES TL Same wt wtL oth noE noL)

theorem KF.form {kv : Value} (h : KF kv) : ∃ a n c, kv = .slice a n c := by
  rcases h with rfl | ⟨g, n, rfl⟩
  · exact ⟨_, _, _, rfl⟩
  · exact ⟨_, _, _, rfl⟩
theorem TF.form {W : World} {B lo : Nat} {tv : Value} {ts : List (Int × Int)} (h : TF W B lo tv ts) : ∃ a n c, tv = .slice a n c := by
  rcases h with ⟨rfl, _⟩ | ⟨g, c, rfl, _⟩
  · exact ⟨_, _, _, rfl⟩
  · exact ⟨_, _, _, rfl⟩
def isB (z : Int) : Prop := -1000000000 ≤ z ∧ z ≤ 1000000000
theorem j1 : ∀ z ∈ ([0, 11, 3, 9] : List Int), isB z := by
  intro z hz
  simp only [List.mem_cons, List.not_mem_nil, or_false] at hz
  unfold isB
  omega

theorem w3s : ∀ z ∈ ([⟨#[120]⟩, ⟨#[65]⟩, ⟨#[97, 100, 100]⟩] : List ByteArray), Rule.isEnd z := by
  intro z hz
  simp only [List.mem_cons, List.not_mem_nil, or_false] at hz
  rcases hz with rfl | rfl | rfl
  · exact Rule.isEnd_of 120 [] (by decide) (by decide)
  · exact Rule.isEnd_of 65 [] (by decide) (by decide)
  · exact Rule.isEnd_of 100 [97, 100] (by decide) (by decide)

set_option maxHeartbeats 16000000 in
set_option maxRecDepth 20000 in
theorem rule2 (b p : Nat) (w : World) (hR : Rd w b p) (hp : p ≤ 1000000) :
    Calls Try.prog 9 #[.pointer (some ⟨b, 0, none⟩)] w fun x w' => ∃ v, x = .returned v ∧ RuOut w w' b p v := by
  have G0 := Uses.hide (Gs.new w b p hR (.int .i64 0) (.int .i64 0) (.string ⟨#[]⟩) (.slice none 0 0) (.slice none 0 0) 26)
  clear hR
  go_enter Try.func9, Try.ntmps9
  go_wp2_with fail
  refine ((Uses.unhide G0).pick (by omega) 4).mono ?_
  rintro x W1 ⟨r, rfl, r0, r1, hG1⟩
  obtain ⟨d, rfl⟩ := Int.eq_ofNat_of_zero_le r0
  have hd : d ≤ 3 := by omega
  have hX : 4 ^ d ≤ 64 := Nat.pow_le_pow_right (n := 4) (by omega) hd
  have G1 := Uses.hide hG1
  clear G0 hG1 r0 r1
  have HX := Uses.hide hX
  clear hX
  go_wp2_with fail
  refine (gen d b _ _ (Uses.unhide G1).rd (by have := Uses.unhide HX; omega)).mono ?_
  rintro x W2 ⟨v, rfl, k, n, m, kv, tv, ks, ts, q2, lo, rfl, ⟨hlo, hES, hKF, hTF⟩, ⟨hw, hm, hts, ⟨hn0, hn1⟩, hno⟩, hR2, hq0, hq1, hg2⟩
  have hq : q2 ≤ p + 1 + 1280 := by have := Uses.unhide HX; omega
  have hwt : wtL ks ≤ 1280 := by have := Uses.unhide HX; omega
  have z1 := (Uses.unhide G1).size
  have z2 := hg2.size
  have G2 := Uses.hide ((Uses.unhide G1).next hg2 hR2)
  obtain ⟨ka, kn, kc, rfl⟩ := hKF.form
  obtain ⟨ta, tn, tc, rfl⟩ := hTF.form
  have HKF := Uses.hide hKF
  have HTF := Uses.hide hTF
  have HES := Uses.hide hES
  have S3 : Hid (Rs w (W2.alloc (.cells #[.int .i64 k, .int .i64 n, .string m, .slice ka kn kc, .slice ta tn tc] 26)) b q2 W2.heap.size d k n m (.slice ka kn kc) (.slice ta tn tc) ks ts) := Uses.hide (by
    have hag : Ag w W2 (W2.alloc (.cells #[.int .i64 k, .int .i64 n, .string m, .slice ka kn kc, .slice ta tn tc] 26)) W2.heap.size := Ag.none (World.grownBy_alloc W2 _ none)
    obtain ⟨n0, n1, n2, n3, n4⟩ := Rule.new5 W2 (.int .i64 k) (.int .i64 n) (.string m) (.slice ka kn kc) (.slice ta tn tc) 26
    obtain ⟨_, _, _, _, _, _, _, hf⟩ := Bx.new W2 (.int .i64 k) (.int .i64 n) (.string m) (.slice ka kn kc) (.slice ta tn tc) 26
    exact ⟨(Uses.unhide G2).alloc _, n0, n1, n2, n3, n4, hf, ⟨by omega, by simp⟩, PE.old (lo := lo) (by omega) hES rfl hag, PT.old (B := W1.heap.size) (by omega) hTF.tl rfl hag, ⟨by omega, by omega, by omega, hno⟩⟩)
  clear hES hKF hTF hR2 hg2 G1 HX hw hq1 hno
  go_wp2_with fail
  refine ((Uses.unhide S3).pick (by omega) 36).mono ?_
  rintro x W4 ⟨r, rfl, r0, _, hS4, hg4⟩
  have HAG : Hid (Ag w W2 W4 W2.heap.size) := Uses.hide ((Ag.none (World.grownBy_alloc W2 _ none)).trans (Ag.grown hg4 (Nat.le_of_lt hS4.gs.bw)))
  have HTR : Hid (TRow W4 W1.heap.size (.slice ta tn tc) ts ∧ (∀ g, (Value.slice ta tn tc).ownBlock = some g → g < lo ∧ w.heap.size < g ∧ g < W2.heap.size)) := Uses.hide (by
    obtain ⟨h1, h2⟩ := (Uses.unhide HTF).row
    exact ⟨(h1.kept (World.grownBy_alloc W2 _ none) (by simp)).kept hg4 (fun j hj => by cases hj; have := hS4.gs.bw; omega), fun g hg => ⟨h2 g hg, by have := (World.ownsRow.lt h1 g hg).1; omega, (World.ownsRow.lt h1 g hg).2⟩⟩)
  have hz24 : W2.heap.size < W4.heap.size := hS4.hh.2
  clear hg4
  have S4 := Uses.hide hS4
  have hne : w.heap.size ≠ W2.heap.size := by omega
  have hlt : w.heap.size < W2.heap.size := by omega
  clear hS4 S3
  by_cases e0 : r = 0
  · subst e0
    have S5 := Uses.hide ((Uses.unhide S4).setN (n + 1000000000 + 1))
    obtain ⟨_, v0, v1, v2, v3, v4, ⟨c0, c1, c2, c3, c4⟩, hf⟩ := (Uses.unhide S4).gs.box
    obtain ⟨_, d0, d1, d2, d3, d4, fz, _, _, _, _⟩ := Uses.unhide S4
    go_wp2
    obtain ⟨z0, z1, z2, z3, z4⟩ := put5_back (Uses.unhide S5).gs.box (.int .i64 k) (.int .i64 (n + 1000000000 + 1)) (.string m) (.slice ka kn kc) (.slice ta tn tc)
    exact bodyPost_ret (v := .agg #[.int .i64 k, .int .i64 (n + 1000000000 + 1), .string m, .slice ka kn kc, .slice ta tn tc]) (by simp [results, Try.results9, go_sem, z0, z1, z2, z3, z4]) rfl ⟨_, rfl, (Uses.unhide S5).out (by omega) (by omega)⟩
  by_cases e1 : r = 1
  · subst e1
    obtain ⟨ka', kc', hform, _⟩ := (Uses.unhide HES).form
    have hkl : ks.length = kn := by simp only [Value.slice.injEq] at hform; omega
    clear hform
    have hkn : kn ≤ 2000 := by have := wtL_len ks; omega
    have hES4 := (Uses.unhide S4).pe W4 (Ag.refl _ _ _)
    obtain ⟨g', cap', w', hr, hg, hg1, hg2, hold, hnew⟩ := run_appK W4 23 ka kn kc hkn (Uses.unhide HKF) (fun g hga => by subst hga; exact cells_some hES4 hkl)
    have S5 := Uses.hide (((Uses.unhide S4).alloc (.cells leafV.toArray 26)).next (grown_none hg) (((Uses.unhide S4).alloc (.cells leafV.toArray 26)).gs.rd.kept hg (by simp)))
    have hag : Ag w W2 w' W2.heap.size := ((Uses.unhide HAG).trans (Ag.none (World.grownBy_alloc W4 _ none))).trans (Ag.none hg)
    have hz4 := (Uses.unhide S4).hh
    have hPE : PE w w' W2.heap.size (d + 1) (.slice (some ⟨g', 0, none⟩) (kn + 1) cap') (ks ++ [leaf]) := PE.app (lo := lo) (by omega) (Uses.unhide HES) rfl hag ⟨by omega, by omega, hg2⟩ hkl hkn (fun g hga j hj => by
      rw [hold g hga j hj]
      subst hga
      obtain ⟨u, hu⟩ := cells_some hES4 hkl j hj
      rw [hu]
      exact (hg.cell (cell_alloc _ hu (Rule.lt_of_cell hu)) (by simp)).symm) ((Uses.unhide HKF).some) hnew
    have S6 := Uses.hide ((Uses.unhide S5).setKids hPE ⟨by rw [wtL_app, wtL_leaf]; omega, Rule.noL_app (Uses.unhide S5).bd.2.2.2.2 (Rule.noL1 ⟨Rule.nil_oth, Rule.noL0 _⟩)⟩)
    obtain ⟨_, _, _, d2, d3, d4, fz, _, _, _, _⟩ := Uses.unhide S4
    obtain ⟨_, v0, v1, v2, v3, v4, ⟨c0, c1, c2, c3, c4⟩, hf⟩ := (Uses.unhide S5).gs.box
    obtain ⟨_, f0, f1, f2, f3, f4, fz5, _, _, _, _⟩ := Uses.unhide S5
    have HRUN := Uses.hide hr
    clear hES4 hr hg hold hnew hPE hag d2 d4 fz
    go_wp2_with (first | (at_builtin; refine wpList_run rfl _ _ 23 rfl _ _ _ rfl rfl (Uses.unhide HRUN) ?_) | fail)
    obtain ⟨z0, z1, z2, z3, z4⟩ := put5_back (Uses.unhide S6).gs.box (.int .i64 k) (.int .i64 n) (.string m) (.slice (some ⟨g', 0, none⟩) (kn + 1) cap') (.slice ta tn tc)
    exact bodyPost_ret (v := .agg #[.int .i64 k, .int .i64 n, .string m, .slice (some ⟨g', 0, none⟩) (kn + 1) cap', .slice ta tn tc]) (by simp [results, Try.results9, go_sem, z0, z1, z2, z3, z4]) rfl ⟨_, rfl, (Uses.unhide S6).out (by omega) (by omega)⟩
  by_cases e2 : r = 2
  · subst e2
    obtain ⟨_, d0, d1, d2, d3, d4, fz, _, _, _, _⟩ := Uses.unhide S4
    go_wp2
    go_region_with (first | (go_at_call 19; refine (wordOf Rule.isEnd b (q2 + 1) W4.heap.size 0 3 3 _ ((Uses.unhide S4).alloc _).drew.gs.rd (by omega) (by omega) (by omega) (by have := (Uses.unhide S4).gs.bw; have := (Uses.unhide S4).gs.size; omega) (new_words Rule.isEnd W4 [⟨#[120]⟩, ⟨#[65]⟩, ⟨#[97, 100, 100]⟩] 9 w3s)).mono ?_; rintro x W5 ⟨y, rfl, hy, hR5, hg5⟩; obtain ⟨hy, hye⟩ := hy; have HYE := Uses.hide hye; clear hye; have hsz : m.size + y.size ≤ 9223372036854775807 := (by omega); have S5 := Uses.hide (((Uses.unhide S4).alloc _).drew.next hg5 hR5); have g2 := (Uses.unhide S5).c2; have g2f := (Uses.unhide S5).fz 2; clear hR5 hg5) | fail)
    all_goals (have S6 := Uses.hide ((Uses.unhide S5).setM (m ++ y) ⟨by rw [ByteArray.size_append]; omega, Uses.unhide HYE m⟩); obtain ⟨_, v0, v1, v2, v3, v4, ⟨c0, c1, c2, c3, c4⟩, hf⟩ := (Uses.unhide S5).gs.box; obtain ⟨_, f0, f1, f2, f3, f4, fz5, _, _, _, _⟩ := Uses.unhide S5; clear d0 d1 d2 d3 d4 fz)
    all_goals go_wp2
    all_goals (obtain ⟨z0, z1, z2, z3, z4⟩ := put5_back (Uses.unhide S6).gs.box (.int .i64 k) (.int .i64 n) (.string (m ++ y)) (.slice ka kn kc) (.slice ta tn tc))
    all_goals exact bodyPost_ret (v := .agg #[.int .i64 k, .int .i64 n, .string (m ++ y), .slice ka kn kc, .slice ta tn tc]) (by simp [results, Try.results9, go_sem, z0, z1, z2, z3, z4]) rfl ⟨_, rfl, (Uses.unhide S6).out (by omega) (by omega)⟩
  by_cases e3 : r = 3
  · subst e3
    have hd4 := (Uses.unhide S4).c4
    have htn : tn = ts.length := by
      rcases (Uses.unhide HTF) with ⟨h, rfl⟩ | ⟨g, c, h, _⟩
      · simp only [Value.slice.injEq] at h; simp [h]
      · simp only [Value.slice.injEq] at h; exact h.2.1
    subst htn
    have HNE : Hid (some W2.heap.size ≠ (Value.slice ta ts.length tc).ownBlock) := Uses.hide (fun e => by have := ((Uses.unhide HTR).2 _ e.symm).2.2; omega)
    go_wp2
    go_region_law (first | (go_simp; go_at_call 18; refine ((Uses.unhide S4).drew.pick (by omega) 3).mono ?_; rintro x W5 ⟨y, rfl, y0, y1, hS5, hg5⟩; have S5 := Uses.hide hS5; have G5 := Uses.hide hg5; have k4 := hS5.c4; have hlt5 : W2.heap.size < W5.heap.size := hS5.hh.2; have hne5 : W2.heap.size ≠ W5.heap.size := Nat.ne_of_lt hlt5; have z45 : W4.heap.size ≤ W5.heap.size := hg5.size; have HT5 := Uses.hide (((Uses.unhide HTR).1.kept (grown_drew1 W4 none) (by simp)).kept hg5 (fun j hj => by cases hj; have := hS5.gs.bw; omega)); clear hS5 hg5) | (refine stepAppT _ rfl _ _ rfl W1.heap.size W5.heap.size (IntKind.i64.wrap (y - 1)) (.slice ta ts.length tc) ts rfl rfl (TRow.kept (Uses.unhide HT5) (World.grownBy_alloc W5 _ none) (by simp)) (by rw [cell_new]; rfl) (by rw [cell_new]; rfl) (by omega) (by rw [World.size_alloc]; omega) ?_; intro g' c' w6 ho hgr hat hlt6; obtain ⟨k6a, k6b⟩ := (Uses.unhide S5).box4 hgr (Uses.unhide HNE)))
    all_goals (have hag5 : Ag w W2 (W5.alloc (.cells #[.int .i64 (IntKind.i64.wrap (y - 1)), .int .i64 0] 56)) W2.heap.size := (((Uses.unhide HAG).trans (Ag.none (grown_drew1 W4 none))).trans (Ag.grown (Uses.unhide G5) (Nat.le_of_lt (Uses.unhide S5).gs.bw))).trans (Ag.none (World.grownBy_alloc W5 _ none)))
    all_goals (have hgh : g' ≠ W2.heap.size := (by rcases hat with h | h; exact Nat.ne_of_lt ((Uses.unhide HTR).2 _ h).2.2; rw [h, World.size_alloc]; omega))
    all_goals (obtain ⟨hS6, ⟨k0, k1, k2, k3, k4'⟩, hfz, hbx⟩ := Rs.row (W2 := W2) (lo := lo) ((Uses.unhide S5).alloc _) hgr (fun j hj => ⟨((Uses.unhide HTR).2 j hj).2.1, ((Uses.unhide HTR).2 j hj).1, ((Uses.unhide HTR).2 j hj).2.2⟩) (by omega) (Uses.unhide HES) rfl hag5 (B := W1.heap.size) (by omega) ho hgh (by simp; omega))
    all_goals (have hlen : (ts ++ [(IntKind.i64.wrap (y - 1), (0 : Int))]).length = ts.length + 1 := (by simp); rw [hlen] at hS6; have S6 := Uses.hide hS6; obtain ⟨_, v0, v1, v2, v3, v4, ⟨c0, c1, c2, c3, c4⟩, hf⟩ := hbx; clear hS6 ho hgr hat hlt6 hag5 hlen hd4 k4 k6a k6b)
    all_goals go_wp2
    all_goals (obtain ⟨z0, z1, z2, z3, z4⟩ := put5_back (Uses.unhide S6).gs.box (.int .i64 k) (.int .i64 n) (.string m) (.slice ka kn kc) (.slice (some ⟨g', 0, none⟩) (ts.length + 1) c'))
    all_goals exact bodyPost_ret (v := .agg #[.int .i64 k, .int .i64 n, .string m, .slice ka kn kc, .slice (some ⟨g', 0, none⟩) (ts.length + 1) c']) (by simp [results, Try.results9, go_sem, z0, z1, z2, z3, z4]) rfl ⟨_, rfl, (Uses.unhide S6).out (by omega) (by omega)⟩
  by_cases e4 : r = 4
  · subst e4
    go_wp2_with fail
    refine (num isB b _ _ 0 4 4 _ ((Uses.unhide S4).alloc _).gs.rd (by omega) (by omega) (by omega) (by have := (Uses.unhide S4).gs.bw; have := (Uses.unhide S4).gs.size; omega) (new_nums isB W4 [0, 11, 3, 9] _ j1)).mono ?_
    rintro x W5 ⟨y, rfl, hy, hR5, hg5⟩
    have S5 := Uses.hide (((Uses.unhide S4).alloc _).next hg5 hR5)
    have S6 := Uses.hide ((Uses.unhide S5).setK y)
    obtain ⟨_, v0, v1, v2, v3, v4, ⟨c0, c1, c2, c3, c4⟩, hf⟩ := (Uses.unhide S5).gs.box
    obtain ⟨_, d0, d1, d2, d3, d4, fz, _, _, _, _⟩ := Uses.unhide S5
    clear hR5 hg5
    go_wp2
    obtain ⟨z0, z1, z2, z3, z4⟩ := put5_back (Uses.unhide S6).gs.box (.int .i64 y) (.int .i64 n) (.string m) (.slice ka kn kc) (.slice ta tn tc)
    exact bodyPost_ret (v := .agg #[.int .i64 y, .int .i64 n, .string m, .slice ka kn kc, .slice ta tn tc]) (by simp [results, Try.results9, go_sem, z0, z1, z2, z3, z4]) rfl ⟨_, rfl, (Uses.unhide S6).out (by omega) (by omega)⟩
  by_cases e5 : r = 5
  · subst e5
    go_wp2
    go_loopw [4] (fun ti wr => ∃ j : Nat, j ≤ 8 ∧ ti = .int .i64 j ∧ Hid (∃ d k n m ka kn kc ta tn tc ks ts, Rs w wr b (q2 + 1) W2.heap.size d k n m (.slice ka kn kc) (.slice ta tn tc) ks ts ∧ wtL ks ≤ 1280 + 26 * j)) (fun ti _ => 8 - (intOf ti).toNat)
    case atStart => exact ⟨0, by omega, rfl, Uses.hide ⟨d, k, n, m, ka, kn, kc, ta, tn, tc, ks, ts, Uses.unhide S4, by omega⟩⟩
    case round =>
      obtain ⟨j, hj, rfl, hS⟩ := hrel
      obtain ⟨d, k, n, m, ka, kn, kc, ta, tn, tc, ks, ts, hS5, hw5⟩ := Uses.unhide hS
      have S5 := Uses.hide hS5
      by_cases hlt8 : j < 8
      · have hwl : wtL [Ex.mk k n m ks ts] ≤ 1280 + 26 * (j + 1) := by
          obtain ⟨b1, b2, _⟩ := hS5.bd
          rw [wtL1, Rule.wt_eq]
          show 1 + (m.size + wtL ks + ts.length) ≤ _
          omega
        have S6 := Uses.hide (hS5.wrapA 26 (by omega))
        obtain ⟨_, d0, d1, d2, d3, d4, fz, ⟨_, hh2⟩, _, _, _⟩ := hS5
        have hne2 : W2.heap.size ≠ wr.heap.size := by omega
        clear hS S4 hw5
        go_wp2
        exact ⟨⟨j + 1, by omega, by go_num, Uses.hide ⟨d + 1, 6, 0, ⟨#[]⟩, _, _, _, _, _, _, _, _, Uses.unhide S6, hwl⟩⟩, by simp [intOf]; omega⟩
      · obtain ⟨_, v0, v1, v2, v3, v4, ⟨c0, c1, c2, c3, c4⟩, hf⟩ := hS5.gs.box
        obtain ⟨_, d0, d1, d2, d3, d4, fz, _, _, _, _⟩ := hS5
        clear hS S4
        go_wp2
        obtain ⟨z0, z1, z2, z3, z4⟩ := put5_back (Uses.unhide S5).gs.box (.int .i64 k) (.int .i64 n) (.string m) (.slice ka kn kc) (.slice ta tn tc)
        exact bodyPost_ret (v := .agg #[.int .i64 k, .int .i64 n, .string m, .slice ka kn kc, .slice ta tn tc]) (by simp [results, Try.results9, go_sem, z0, z1, z2, z3, z4]) rfl ⟨_, rfl, (Uses.unhide S5).out (by omega) (by omega)⟩
  · have b0 : (r == 0) = false := by simpa using e0
    have b1 : (r == 1) = false := by simpa using e1
    have b2 : (r == 2) = false := by simpa using e2
    have b3 : (r == 3) = false := by simpa using e3
    have b4 : (r == 4) = false := by simpa using e4
    have b5 : (r == 5) = false := by simpa using e5
    obtain ⟨_, v0, v1, v2, v3, v4, ⟨c0, c1, c2, c3, c4⟩, hf⟩ := (Uses.unhide S4).gs.box
    obtain ⟨_, d0, d1, d2, d3, d4, fz, _, _, _, _⟩ := Uses.unhide S4
    go_wp2
    obtain ⟨z0, z1, z2, z3, z4⟩ := put5_back (Uses.unhide S4).gs.box (.int .i64 k) (.int .i64 n) (.string m) (.slice ka kn kc) (.slice ta tn tc)
    exact bodyPost_ret (v := .agg #[.int .i64 k, .int .i64 n, .string m, .slice ka kn kc, .slice ta tn tc]) (by simp [results, Try.results9, go_sem, z0, z1, z2, z3, z4]) rfl ⟨_, rfl, (Uses.unhide S4).out (by omega) (by omega)⟩
end Go.Proofs.Ytdpefmjlmpjjbaa.Draw
