/-
  l2Gen: a drawn expression, one deeper.
-/
import Derived.Test.YtdpefmjlmpjjbaaGen2
namespace Go.Proofs.Ytdpefmjlmpjjbaa.Draw
set_option linter.unusedVariables false
open Go.RowKit
open Rule (Ex EV ES TL Same wt wtL oth noE noL)

set_option maxHeartbeats 8000000 in
set_option maxRecDepth 20000 in
theorem genS {d : Nat} (H : GenE d) : GenE (d + 1) := by
  intro b p w hR hp
  have G0 := Uses.hide (Gs.new w b p hR (.int .i64 0) (.int .i64 0) (.string ⟨#[]⟩) (.slice none 0 0) (.slice none 0 0) 26)
  have hX : 4 ^ (d + 1) = 4 * 4 ^ d := by rw [Nat.pow_succ]; omega
  have hX1 : 1 ≤ 4 ^ d := Nat.pow_pos (by omega)
  have hdd : d < 4 ^ d := Nat.lt_pow_self (by omega)
  rw [hX] at hp
  have hd9 : (d : Int) ≤ 50000000 := by omega
  have HH : Hid (p + 20 * (4 * 4 ^ d) ≤ 50000000 ∧ 1 ≤ 4 ^ d ∧ 4 ^ (d + 1) = 4 * 4 ^ d) := Uses.hide ⟨hp, hX1, hX⟩
  clear hR hp hX hX1 hdd
  go_enter Try.func17, Try.ntmps17
  go_wp2_with fail
  refine ((Uses.unhide G0).pick (by have := Uses.unhide HH; omega) 10).mono ?_
  rintro e W1 ⟨r, rfl, r0, r1, hG1⟩
  have G2 := Uses.hide hG1
  clear G0 hG1
  have hd0 : ¬ ((d : Int) + 1 ≤ 0) := by omega
  by_cases e0 : r = 0
  · subst e0
    go_wp2_with fail
    refine ((Uses.unhide G2).nums (by have := Uses.unhide HH; (try have := Uses.unhide F1); (try have := Uses.unhide F2); (try have := Uses.unhide F3); omega) isK 12 _ rfl 0 [1, 2, 10, 99, 500, 1000, -5, -100, 12345, 1000000000, -1000000000] rfl (by omega) _ k1).mono ?_
    rintro e W3 ⟨y, rfl, hy, hG3⟩
    have G3 := Uses.hide hG3
    obtain ⟨_, v0, v1, v2, v3, v4, ⟨c0, c1, c2, c3, c4⟩, hf⟩ := hG3.box
    clear hG3 G2
    go_wp2
    obtain ⟨z0, z1, z2, z3, z4⟩ := put5_back (Uses.unhide G3).box (.int .i64 1) (.int .i64 y) (.string ⟨#[]⟩) (.slice none 0 0) (.slice none 0 0)
    exact bodyPost_ret (v := .agg #[.int .i64 1, .int .i64 y, .string ⟨#[]⟩, .slice none 0 0, .slice none 0 0]) (by simp [results, Try.results17, go_sem, z0, z1, z2, z3, z4]) rfl ⟨_, rfl, (Uses.unhide G3).out ⟨by show (0 : Nat) ≤ 8; omega, Rule.nil_oth⟩ hy ⟨by simp, Rule.noL0 _⟩ (Nat.le_refl _) (ES.nought _ _ _ _ _ _) (.inl rfl) (.inl ⟨rfl, rfl⟩) (by rw [wtL0]; show 0 + 0 + 0 ≤ _; omega) (by have := Uses.unhide HH; (try have := Uses.unhide F1); (try have := Uses.unhide F2); (try have := Uses.unhide F3); omega) (by rw [(Uses.unhide HH).2.2]; have := Uses.unhide HH; (try have := Uses.unhide F1); (try have := Uses.unhide F2); (try have := Uses.unhide F3); omega)⟩
  by_cases e1 : r = 1
  · subst e1
    go_wp2_with fail
    refine ((Uses.unhide G2).words (by have := Uses.unhide HH; (try have := Uses.unhide F1); (try have := Uses.unhide F2); (try have := Uses.unhide F3); omega) Rule.isWd 4 _ rfl ⟨#[99, 97, 108, 108, 115]⟩ [⟨#[103, 98]⟩, ⟨#[115, 101, 97, 116, 115]⟩, ⟨#[120]⟩] rfl (by omega) _ u1).mono ?_
    rintro e W3 ⟨y, rfl, hy, hG3⟩
    have G3 := Uses.hide hG3
    unfold Rule.isWd at hy
    obtain ⟨_, v0, v1, v2, v3, v4, ⟨c0, c1, c2, c3, c4⟩, hf⟩ := hG3.box
    clear hG3 G2
    go_wp2
    obtain ⟨z0, z1, z2, z3, z4⟩ := put5_back (Uses.unhide G3).box (.int .i64 2) (.int .i64 0) (.string y) (.slice none 0 0) (.slice none 0 0)
    exact bodyPost_ret (v := .agg #[.int .i64 2, .int .i64 0, .string y, .slice none 0 0, .slice none 0 0]) (by simp [results, Try.results17, go_sem, z0, z1, z2, z3, z4]) rfl ⟨_, rfl, (Uses.unhide G3).out hy (by omega) ⟨by simp, Rule.noL0 _⟩ (Nat.le_refl _) (ES.nought _ _ _ _ _ _) (.inl rfl) (.inl ⟨rfl, rfl⟩) (by rw [wtL0, (Uses.unhide HH).2.2, List.length_nil]; have := Uses.unhide HH; (try have := Uses.unhide F1); (try have := Uses.unhide F2); (try have := Uses.unhide F3); omega) (by have := Uses.unhide HH; (try have := Uses.unhide F1); (try have := Uses.unhide F2); (try have := Uses.unhide F3); omega) (by rw [(Uses.unhide HH).2.2]; have := Uses.unhide HH; (try have := Uses.unhide F1); (try have := Uses.unhide F2); (try have := Uses.unhide F3); omega)⟩
  by_cases e2 : r = 2
  · subst e2
    go_wp2_with fail
    refine ((Uses.unhide G2).words (by have := Uses.unhide HH; (try have := Uses.unhide F1); (try have := Uses.unhide F2); (try have := Uses.unhide F3); omega) Rule.isWd 4 _ rfl ⟨#[99, 97, 108, 108, 115]⟩ [⟨#[103, 98]⟩, ⟨#[115, 101, 97, 116, 115]⟩, ⟨#[120]⟩] rfl (by omega) _ u1).mono ?_
    rintro e W3 ⟨y, rfl, hy, hG3⟩
    have G3 := Uses.hide hG3
    unfold Rule.isWd at hy
    obtain ⟨_, v0, v1, v2, v3, v4, ⟨c0, c1, c2, c3, c4⟩, hf⟩ := hG3.box
    clear hG3 G2
    go_wp2
    obtain ⟨z0, z1, z2, z3, z4⟩ := put5_back (Uses.unhide G3).box (.int .i64 2) (.int .i64 0) (.string y) (.slice none 0 0) (.slice none 0 0)
    exact bodyPost_ret (v := .agg #[.int .i64 2, .int .i64 0, .string y, .slice none 0 0, .slice none 0 0]) (by simp [results, Try.results17, go_sem, z0, z1, z2, z3, z4]) rfl ⟨_, rfl, (Uses.unhide G3).out hy (by omega) ⟨by simp, Rule.noL0 _⟩ (Nat.le_refl _) (ES.nought _ _ _ _ _ _) (.inl rfl) (.inl ⟨rfl, rfl⟩) (by rw [wtL0, (Uses.unhide HH).2.2, List.length_nil]; have := Uses.unhide HH; (try have := Uses.unhide F1); (try have := Uses.unhide F2); (try have := Uses.unhide F3); omega) (by have := Uses.unhide HH; (try have := Uses.unhide F1); (try have := Uses.unhide F2); (try have := Uses.unhide F3); omega) (by rw [(Uses.unhide HH).2.2]; have := Uses.unhide HH; (try have := Uses.unhide F1); (try have := Uses.unhide F2); (try have := Uses.unhide F3); omega)⟩
  by_cases e3 : r = 3
  · subst e3
    go_wp2_with fail
    refine ((Uses.unhide G2).nums (by have := Uses.unhide HH; (try have := Uses.unhide F1); (try have := Uses.unhide F2); (try have := Uses.unhide F3); omega) isK 8 _ rfl 0 [250, 725, 1900, 5000, 10000, 12000, 1000000] rfl (by omega) _ k2).mono ?_
    rintro e W3 ⟨y, rfl, hy, hG3⟩
    have G3 := Uses.hide hG3
    clear hG3 G2
    go_wp2_with fail
    refine ((Uses.unhide G3).kid H (by have := Uses.unhide HH; (try have := Uses.unhide F1); (try have := Uses.unhide F2); (try have := Uses.unhide F3); omega) _ (by omega)).mono ?_
    rintro e W4 ⟨v, rfl, e1, q1, hE1, w1, hG4, a1, b1, hg1⟩
    obtain ⟨k1, n1, m1, ka1, kn1, kc1, ta1, tn1, tc1, rfl⟩ := EV.form hE1
    have F1 := Uses.hide (And.intro w1 (And.intro a1 b1))
    have E11 := Uses.hide (hE1.mono (Nat.succ_le_of_lt (Uses.unhide G3).size) (Nat.le_refl _))
    clear w1 a1 b1
    have G4 := Uses.hide hG4
    clear hE1 hG4 hg1 G3
    have K5 := Uses.hide (ES.build1 (Uses.unhide E11) (Nat.succ_le_of_lt (Uses.unhide G4).size) 26)
    obtain ⟨_, v0, v1, v2, v3, v4, ⟨c0, c1, c2, c3, c4⟩, hf⟩ := (Uses.unhide G4).box
    have hs := (Uses.unhide G4).size
    have hne : w.heap.size ≠ W4.heap.size := by omega
    clear E11
    go_wp2
    obtain ⟨z0, z1, z2, z3, z4⟩ := put5_back (Uses.unhide G4).box (.int .i64 6) (.int .i64 y) (.string ⟨#[]⟩) (.slice (some ⟨W4.heap.size, 0, none⟩) 1 1) (.slice none 0 0)
    exact bodyPost_ret (v := .agg #[.int .i64 6, .int .i64 y, .string ⟨#[]⟩, .slice (some ⟨W4.heap.size, 0, none⟩) 1 1, .slice none 0 0]) (by simp [results, Try.results17, go_sem, z0, z1, z2, z3, z4, hs]) rfl ⟨_, rfl, (Uses.unhide G4).outA _ ⟨by show (0 : Nat) ≤ 8; omega, Rule.nil_oth⟩ hy ⟨by simp, Rule.noL1 (Uses.unhide F1).1.2⟩ (Nat.le_refl _) (Uses.unhide K5) (.inr ⟨_, _, rfl⟩) (.inl ⟨rfl, rfl⟩) (by rw [wtL1, (Uses.unhide HH).2.2]; have := Uses.unhide HH; (try have := Uses.unhide F1); (try have := Uses.unhide F2); (try have := Uses.unhide F3); show 0 + _ + 0 ≤ _; omega) (by have := Uses.unhide HH; (try have := Uses.unhide F1); (try have := Uses.unhide F2); (try have := Uses.unhide F3); omega) (by rw [(Uses.unhide HH).2.2]; have := Uses.unhide HH; (try have := Uses.unhide F1); (try have := Uses.unhide F2); (try have := Uses.unhide F3); omega)⟩
  by_cases e4 : r = 4
  · subst e4
    go_wp2_with fail
    refine ((Uses.unhide G2).kid H (by have := Uses.unhide HH; (try have := Uses.unhide F1); (try have := Uses.unhide F2); (try have := Uses.unhide F3); omega) _ (by omega)).mono ?_
    rintro e W4 ⟨v, rfl, e1, q1, hE1, w1, hG4, a1, b1, hg1⟩
    obtain ⟨k1, n1, m1, ka1, kn1, kc1, ta1, tn1, tc1, rfl⟩ := EV.form hE1
    have F1 := Uses.hide (And.intro w1 (And.intro a1 b1))
    have E11 := Uses.hide (hE1.mono (Nat.succ_le_of_lt (Uses.unhide G2).size) (Nat.le_refl _))
    clear w1 a1 b1
    have G4 := Uses.hide hG4
    clear hE1 hG4 hg1 G2
    go_wp2_with fail
    refine ((Uses.unhide G4).kid H (by have := Uses.unhide HH; (try have := Uses.unhide F1); (try have := Uses.unhide F2); (try have := Uses.unhide F3); omega) _ (by omega)).mono ?_
    rintro e W5 ⟨v, rfl, e2, q2, hE2, w2, hG5, a2, b2, hg2⟩
    obtain ⟨k2, n2, m2, ka2, kn2, kc2, ta2, tn2, tc2, rfl⟩ := EV.form hE2
    have E12 := Uses.hide (EV.grown (Uses.unhide E11) hg2 (by have := (Uses.unhide G4).bw; omega))
    have F2 := Uses.hide (And.intro w2 (And.intro a2 b2))
    have E22 := Uses.hide (hE2.mono (Nat.succ_le_of_lt (Uses.unhide G4).size) (Nat.le_refl _))
    clear w2 a2 b2
    have G5 := Uses.hide hG5
    clear hE2 hG5 hg2 G4 E11
    go_wp2_with fail
    refine ((Uses.unhide G5).kid H (by have := Uses.unhide HH; (try have := Uses.unhide F1); (try have := Uses.unhide F2); (try have := Uses.unhide F3); omega) _ (by omega)).mono ?_
    rintro e W6 ⟨v, rfl, e3, q3, hE3, w3, hG6, a3, b3, hg3⟩
    obtain ⟨k3, n3, m3, ka3, kn3, kc3, ta3, tn3, tc3, rfl⟩ := EV.form hE3
    have E13 := Uses.hide (EV.grown (Uses.unhide E12) hg3 (by have := (Uses.unhide G5).bw; omega))
    have E23 := Uses.hide (EV.grown (Uses.unhide E22) hg3 (by have := (Uses.unhide G5).bw; omega))
    have F3 := Uses.hide (And.intro w3 (And.intro a3 b3))
    have E33 := Uses.hide (hE3.mono (Nat.succ_le_of_lt (Uses.unhide G5).size) (Nat.le_refl _))
    clear w3 a3 b3
    have G6 := Uses.hide hG6
    clear hE3 hG6 hg3 G5 E12 E22
    have K5 := Uses.hide (ES.build3 (Uses.unhide E13) (Uses.unhide E23) (Uses.unhide E33) (Nat.succ_le_of_lt (Uses.unhide G6).size) 26)
    obtain ⟨_, v0, v1, v2, v3, v4, ⟨c0, c1, c2, c3, c4⟩, hf⟩ := (Uses.unhide G6).box
    have hs := (Uses.unhide G6).size
    have hne : w.heap.size ≠ W6.heap.size := by omega
    clear E13 E23 E33
    go_wp2
    obtain ⟨z0, z1, z2, z3, z4⟩ := put5_back (Uses.unhide G6).box (.int .i64 9) (.int .i64 0) (.string ⟨#[]⟩) (.slice (some ⟨W6.heap.size, 0, none⟩) 3 3) (.slice none 0 0)
    exact bodyPost_ret (v := .agg #[.int .i64 9, .int .i64 0, .string ⟨#[]⟩, .slice (some ⟨W6.heap.size, 0, none⟩) 3 3, .slice none 0 0]) (by simp [results, Try.results17, go_sem, z0, z1, z2, z3, z4, hs]) rfl ⟨_, rfl, (Uses.unhide G6).outA _ ⟨by show (0 : Nat) ≤ 8; omega, Rule.nil_oth⟩ (by omega) ⟨by simp, Rule.noL3 (Uses.unhide F1).1.2 (Uses.unhide F2).1.2 (Uses.unhide F3).1.2⟩ (Nat.le_refl _) (Uses.unhide K5) (.inr ⟨_, _, rfl⟩) (.inl ⟨rfl, rfl⟩) (by rw [wtL3, (Uses.unhide HH).2.2]; have := Uses.unhide HH; (try have := Uses.unhide F1); (try have := Uses.unhide F2); (try have := Uses.unhide F3); show 0 + _ + 0 ≤ _; omega) (by have := Uses.unhide HH; (try have := Uses.unhide F1); (try have := Uses.unhide F2); (try have := Uses.unhide F3); omega) (by rw [(Uses.unhide HH).2.2]; have := Uses.unhide HH; (try have := Uses.unhide F1); (try have := Uses.unhide F2); (try have := Uses.unhide F3); omega)⟩
  by_cases e5 : r = 5
  · subst e5
    go_wp2_with fail
    refine (steps b _ _ (Uses.unhide G2).rd (by have := Uses.unhide HH; (try have := Uses.unhide F1); (try have := Uses.unhide F2); (try have := Uses.unhide F3); omega)).mono ?_
    rintro e W3 ⟨g, n, c, q3, ts, rfl, rfl, hn3, hO, hR3, hq0, hq1, hg3⟩
    have G3 := Uses.hide ((Uses.unhide G2).next hg3 hR3)
    have T3 := Uses.hide (show TF W3 (w.heap.size + 1) W3.heap.size (.slice (some ⟨g, 0, none⟩) ts.length c) ts from .inr ⟨g, c, rfl, ownsRow_le hO (Nat.succ_le_of_lt (Uses.unhide G2).size), (hO).lt.2⟩)
    have y33 := (Uses.unhide G3).size
    clear hO hR3 hg3 G2
    go_wp2_with fail
    refine ((Uses.unhide G3).kid H (by have := Uses.unhide HH; (try have := Uses.unhide F1); (try have := Uses.unhide F2); (try have := Uses.unhide F3); omega) _ (by omega)).mono ?_
    rintro e W4 ⟨v, rfl, e1, q1, hE1, w1, hG4, a1, b1, hg1⟩
    obtain ⟨k1, n1, m1, ka1, kn1, kc1, ta1, tn1, tc1, rfl⟩ := EV.form hE1
    have z34 := hg1.size
    have T4 := Uses.hide (TF.grown (Uses.unhide T3) hg1 (by have := (Uses.unhide G3).bw; omega))
    have F1 := Uses.hide (And.intro w1 (And.intro a1 b1))
    have E11 := Uses.hide hE1
    clear w1 a1 b1
    have G4 := Uses.hide hG4
    clear hE1 hG4 hg1 G3
    have K5 := Uses.hide (ES.build1 (Uses.unhide E11) z34 26)
    obtain ⟨_, v0, v1, v2, v3, v4, ⟨c0, c1, c2, c3, c4⟩, hf⟩ := (Uses.unhide G4).box
    have hs := (Uses.unhide G4).size
    have hne : w.heap.size ≠ W4.heap.size := by omega
    clear E11 T3
    go_wp2
    obtain ⟨z0, z1, z2, z3, z4⟩ := put5_back (Uses.unhide G4).box (.int .i64 10) (.int .i64 0) (.string ⟨#[]⟩) (.slice (some ⟨W4.heap.size, 0, none⟩) 1 1) (.slice (some ⟨g, 0, none⟩) ts.length c)
    exact bodyPost_ret (v := .agg #[.int .i64 10, .int .i64 0, .string ⟨#[]⟩, .slice (some ⟨W4.heap.size, 0, none⟩) 1 1, .slice (some ⟨g, 0, none⟩) ts.length c]) (by simp [results, Try.results17, go_sem, z0, z1, z2, z3, z4, hs]) rfl ⟨_, rfl, (Uses.unhide G4).outA _ ⟨by show (0 : Nat) ≤ 8; omega, Rule.nil_oth⟩ (by omega) ⟨by omega, Rule.noL1 (Uses.unhide F1).1.2⟩ (Nat.succ_le_of_lt y33) (Uses.unhide K5) (.inr ⟨_, _, rfl⟩) (Uses.unhide T4) (by rw [wtL1, (Uses.unhide HH).2.2]; have := Uses.unhide HH; (try have := Uses.unhide F1); (try have := Uses.unhide F2); (try have := Uses.unhide F3); show 0 + _ + _ ≤ _; omega) (by have := Uses.unhide HH; (try have := Uses.unhide F1); (try have := Uses.unhide F2); (try have := Uses.unhide F3); omega) (by rw [(Uses.unhide HH).2.2]; have := Uses.unhide HH; (try have := Uses.unhide F1); (try have := Uses.unhide F2); (try have := Uses.unhide F3); omega)⟩
  by_cases e6 : r = 6
  · subst e6
    go_wp2_with fail
    refine (steps b _ _ (Uses.unhide G2).rd (by have := Uses.unhide HH; (try have := Uses.unhide F1); (try have := Uses.unhide F2); (try have := Uses.unhide F3); omega)).mono ?_
    rintro e W3 ⟨g, n, c, q3, ts, rfl, rfl, hn3, hO, hR3, hq0, hq1, hg3⟩
    have G3 := Uses.hide ((Uses.unhide G2).next hg3 hR3)
    have T3 := Uses.hide (show TF W3 (w.heap.size + 1) W3.heap.size (.slice (some ⟨g, 0, none⟩) ts.length c) ts from .inr ⟨g, c, rfl, ownsRow_le hO (Nat.succ_le_of_lt (Uses.unhide G2).size), (hO).lt.2⟩)
    have y33 := (Uses.unhide G3).size
    clear hO hR3 hg3 G2
    go_wp2_with fail
    refine ((Uses.unhide G3).kid H (by have := Uses.unhide HH; (try have := Uses.unhide F1); (try have := Uses.unhide F2); (try have := Uses.unhide F3); omega) _ (by omega)).mono ?_
    rintro e W4 ⟨v, rfl, e1, q1, hE1, w1, hG4, a1, b1, hg1⟩
    obtain ⟨k1, n1, m1, ka1, kn1, kc1, ta1, tn1, tc1, rfl⟩ := EV.form hE1
    have z34 := hg1.size
    have T4 := Uses.hide (TF.grown (Uses.unhide T3) hg1 (by have := (Uses.unhide G3).bw; omega))
    have F1 := Uses.hide (And.intro w1 (And.intro a1 b1))
    have E11 := Uses.hide hE1
    clear w1 a1 b1
    have G4 := Uses.hide hG4
    clear hE1 hG4 hg1 G3
    have K5 := Uses.hide (ES.build1 (Uses.unhide E11) z34 26)
    obtain ⟨_, v0, v1, v2, v3, v4, ⟨c0, c1, c2, c3, c4⟩, hf⟩ := (Uses.unhide G4).box
    have hs := (Uses.unhide G4).size
    have hne : w.heap.size ≠ W4.heap.size := by omega
    clear E11 T3
    go_wp2
    obtain ⟨z0, z1, z2, z3, z4⟩ := put5_back (Uses.unhide G4).box (.int .i64 10) (.int .i64 0) (.string ⟨#[]⟩) (.slice (some ⟨W4.heap.size, 0, none⟩) 1 1) (.slice (some ⟨g, 0, none⟩) ts.length c)
    exact bodyPost_ret (v := .agg #[.int .i64 10, .int .i64 0, .string ⟨#[]⟩, .slice (some ⟨W4.heap.size, 0, none⟩) 1 1, .slice (some ⟨g, 0, none⟩) ts.length c]) (by simp [results, Try.results17, go_sem, z0, z1, z2, z3, z4, hs]) rfl ⟨_, rfl, (Uses.unhide G4).outA _ ⟨by show (0 : Nat) ≤ 8; omega, Rule.nil_oth⟩ (by omega) ⟨by omega, Rule.noL1 (Uses.unhide F1).1.2⟩ (Nat.succ_le_of_lt y33) (Uses.unhide K5) (.inr ⟨_, _, rfl⟩) (Uses.unhide T4) (by rw [wtL1, (Uses.unhide HH).2.2]; have := Uses.unhide HH; (try have := Uses.unhide F1); (try have := Uses.unhide F2); (try have := Uses.unhide F3); show 0 + _ + _ ≤ _; omega) (by have := Uses.unhide HH; (try have := Uses.unhide F1); (try have := Uses.unhide F2); (try have := Uses.unhide F3); omega) (by rw [(Uses.unhide HH).2.2]; have := Uses.unhide HH; (try have := Uses.unhide F1); (try have := Uses.unhide F2); (try have := Uses.unhide F3); omega)⟩
  · have b0 : (r == 0) = false := by simpa using e0
    have b1 : (r == 1) = false := by simpa using e1
    have b2 : (r == 2) = false := by simpa using e2
    have b3 : (r == 3) = false := by simpa using e3
    have b4 : (r == 4) = false := by simpa using e4
    have b5 : (r == 5) = false := by simpa using e5
    have b6 : (r == 6) = false := by simpa using e6
    go_wp2_with fail
    refine ((Uses.unhide G2).nums (by have := Uses.unhide HH; (try have := Uses.unhide F1); (try have := Uses.unhide F2); (try have := Uses.unhide F3); omega) isK 5 _ rfl 3 [4, 5, 7, 8] rfl (by omega) _ k3).mono ?_
    rintro e W3 ⟨y, rfl, hy, hG3⟩
    have G3 := Uses.hide hG3
    clear hG3 G2
    go_wp2_with fail
    refine ((Uses.unhide G3).kid H (by have := Uses.unhide HH; (try have := Uses.unhide F1); (try have := Uses.unhide F2); (try have := Uses.unhide F3); omega) _ (by omega)).mono ?_
    rintro e W4 ⟨v, rfl, e1, q1, hE1, w1, hG4, a1, b1, hg1⟩
    obtain ⟨k1, n1, m1, ka1, kn1, kc1, ta1, tn1, tc1, rfl⟩ := EV.form hE1
    have F1 := Uses.hide (And.intro w1 (And.intro a1 b1))
    have E11 := Uses.hide (hE1.mono (Nat.succ_le_of_lt (Uses.unhide G3).size) (Nat.le_refl _))
    clear w1 a1 b1
    have G4 := Uses.hide hG4
    clear hE1 hG4 hg1 G3
    go_wp2_with fail
    refine ((Uses.unhide G4).kid H (by have := Uses.unhide HH; (try have := Uses.unhide F1); (try have := Uses.unhide F2); (try have := Uses.unhide F3); omega) _ (by omega)).mono ?_
    rintro e W5 ⟨v, rfl, e2, q2, hE2, w2, hG5, a2, b2, hg2⟩
    obtain ⟨k2, n2, m2, ka2, kn2, kc2, ta2, tn2, tc2, rfl⟩ := EV.form hE2
    have E12 := Uses.hide (EV.grown (Uses.unhide E11) hg2 (by have := (Uses.unhide G4).bw; omega))
    have F2 := Uses.hide (And.intro w2 (And.intro a2 b2))
    have E22 := Uses.hide (hE2.mono (Nat.succ_le_of_lt (Uses.unhide G4).size) (Nat.le_refl _))
    clear w2 a2 b2
    have G5 := Uses.hide hG5
    clear hE2 hG5 hg2 G4 E11
    have K5 := Uses.hide (ES.build2 (Uses.unhide E12) (Uses.unhide E22) (Nat.succ_le_of_lt (Uses.unhide G5).size) 26)
    obtain ⟨_, v0, v1, v2, v3, v4, ⟨c0, c1, c2, c3, c4⟩, hf⟩ := (Uses.unhide G5).box
    have hs := (Uses.unhide G5).size
    have hne : w.heap.size ≠ W5.heap.size := by omega
    clear E12 E22
    go_wp2
    obtain ⟨z0, z1, z2, z3, z4⟩ := put5_back (Uses.unhide G5).box (.int .i64 y) (.int .i64 0) (.string ⟨#[]⟩) (.slice (some ⟨W5.heap.size, 0, none⟩) 2 2) (.slice none 0 0)
    exact bodyPost_ret (v := .agg #[.int .i64 y, .int .i64 0, .string ⟨#[]⟩, .slice (some ⟨W5.heap.size, 0, none⟩) 2 2, .slice none 0 0]) (by simp [results, Try.results17, go_sem, z0, z1, z2, z3, z4, hs]) rfl ⟨_, rfl, (Uses.unhide G5).outA _ ⟨by show (0 : Nat) ≤ 8; omega, Rule.nil_oth⟩ (by omega) ⟨by simp, Rule.noL2 (Uses.unhide F1).1.2 (Uses.unhide F2).1.2⟩ (Nat.le_refl _) (Uses.unhide K5) (.inr ⟨_, _, rfl⟩) (.inl ⟨rfl, rfl⟩) (by rw [wtL2, (Uses.unhide HH).2.2]; have := Uses.unhide HH; (try have := Uses.unhide F1); (try have := Uses.unhide F2); (try have := Uses.unhide F3); show 0 + _ + 0 ≤ _; omega) (by have := Uses.unhide HH; (try have := Uses.unhide F1); (try have := Uses.unhide F2); (try have := Uses.unhide F3); omega) (by rw [(Uses.unhide HH).2.2]; have := Uses.unhide HH; (try have := Uses.unhide F1); (try have := Uses.unhide F2); (try have := Uses.unhide F3); omega)⟩

theorem gen : ∀ d, GenE d
  | 0 => gen0
  | d + 1 => genS (gen d)
end Go.Proofs.Ytdpefmjlmpjjbaa.Draw
