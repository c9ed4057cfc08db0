/-
  l2Gen: a drawn expression, so deep at most.
-/
import Derived.Test.YtdpefmjlmpjjbaaGen
namespace Go.Proofs.Ytdpefmjlmpjjbaa.Draw
set_option linter.unusedVariables false
open Go.RowKit
open Rule (Ex EV ES TL Same wt wtL oth noE noL)

def GenE (d : Nat) : Prop := ∀ (b p : Nat) (w : World), Rd w b p → p + 20 * 4 ^ d ≤ 50000000 →
  Calls Try.prog 17 #[.pointer (some ⟨b, 0, none⟩), .int .i64 (d : Int)] w fun x w' => ∃ v, x = .returned v ∧ GenOut w w' b p d d v

theorem EV.form {lo hi : Nat} {W : World} {d : Nat} {v : Value} {e : Ex} (h : EV lo hi W d v e) : ∃ (k n : Int) (m : ByteArray) (ka : Option Addr) (kn kc : Nat) (ta : Option Addr) (tn tc : Nat), v = .agg #[.int .i64 k, .int .i64 n, .string m, .slice ka kn kc, .slice ta tn tc] := by
  obtain ⟨kv, tv, rfl, _, hk, ht⟩ := h
  obtain ⟨ka, kc, rfl, _⟩ := hk.form
  rcases ht with ⟨_, a, c, rfl⟩ | ⟨b, o, cap, rfl, _⟩
  · exact ⟨_, _, _, _, _, _, _, _, _, rfl⟩
  · exact ⟨_, _, _, _, _, _, _, _, _, rfl⟩
theorem wtL1 (e : Ex) : wtL [e] = 1 + wt e := by simp [wtL]
theorem wtL2 (e f : Ex) : wtL [e, f] = 2 + wt e + wt f := by simp [wtL]; omega
theorem wtL3 (e f g : Ex) : wtL [e, f, g] = 3 + wt e + wt f + wt g := by simp [wtL]; omega
theorem wtL0 : wtL [] = 0 := by simp [wtL]

def isK (z : Int) : Prop := -1000000000 ≤ z ∧ z ≤ 1000000000
theorem k1 : ∀ z ∈ ([0, 1, 2, 10, 99, 500, 1000, -5, -100, 12345, 1000000000, -1000000000] : List Int), isK z := by
  intro z hz
  simp only [List.mem_cons, List.not_mem_nil, or_false] at hz
  unfold isK
  omega
theorem k2 : ∀ z ∈ ([0, 250, 725, 1900, 5000, 10000, 12000, 1000000] : List Int), isK z := by
  intro z hz
  simp only [List.mem_cons, List.not_mem_nil, or_false] at hz
  unfold isK
  omega
theorem k3 : ∀ z ∈ ([3, 4, 5, 7, 8] : List Int), isK z := by
  intro z hz
  simp only [List.mem_cons, List.not_mem_nil, or_false] at hz
  unfold isK
  omega
theorem u1 : ∀ z ∈ ([⟨#[99, 97, 108, 108, 115]⟩, ⟨#[103, 98]⟩, ⟨#[115, 101, 97, 116, 115]⟩, ⟨#[120]⟩] : List ByteArray), Rule.isWd z := by
  intro z hz
  simp only [List.mem_cons, List.not_mem_nil, or_false] at hz
  rcases hz with rfl | rfl | rfl | rfl <;> (unfold Rule.isWd; decide)

theorem OwnT.tl {W : World} {B lo g c : Nat} {ts : List (Int × Int)} (h : OwnT W B g c ts) (hlo : lo ≤ B) : TL lo W.heap.size W (.slice (some ⟨g, 0, none⟩) ts.length c) ts := by
  refine .inr ⟨g, 0, c, rfl, Nat.le_trans hlo h.lt.1, h.lt.2, fun i hi => ?_⟩
  have := h.cells i (ts.getD i Tiers.T0) (by simp [List.getD, hi])
  rw [Nat.zero_add]
  exact this
theorem TL.grown {lo : Nat} {W W' : World} {b : Nat} {v : Value} {ts : List (Int × Int)} (h : TL lo W.heap.size W v ts) (hg : W.grownBy W' (some b)) (hb : b < lo) : TL lo W'.heap.size W' v ts :=
  (h.kept (same_grown hg hb (Nat.le_refl _))).mono (Nat.le_refl _) hg.size
theorem TL.up {lo : Nat} {W : World} {v : Value} {ts : List (Int × Int)} (h : TL lo W.heap.size W v ts) (o : Obj) : TL lo (W.alloc o).heap.size (W.alloc o) v ts :=
  (h.kept (same_alloc W o (Nat.le_refl _))).mono (Nat.le_refl _) (by simp)

/-- a kid is drawn -/
theorem Gs.kid {d : Nat} (H : GenE d) {w W : World} {b q : Nat} (h : Gs w W b q) (hq : q + 20 * 4 ^ d ≤ 50000000) (D : Int) (hD : D = d) :
    Calls Try.prog 17 #[.pointer (some ⟨b, 0, none⟩), .int .i64 D] W fun x W' => ∃ v, x = .returned v ∧ ∃ (e : Ex) (q' : Nat), EV W.heap.size W'.heap.size W' d v e ∧ (wt e ≤ 20 * 4 ^ d ∧ noE oth e) ∧ Gs w W' b q' ∧ q ≤ q' ∧ q' ≤ q + 20 * 4 ^ d ∧ W.grownBy W' (some b) := by
  subst hD
  refine (H b q W h.rd hq).mono ?_
  rintro x W' ⟨v, rfl, ho⟩
  obtain ⟨e, q', hE, hw, hR, h0, h1, hg⟩ := ho.ev
  exact ⟨v, rfl, e, q', hE, hw, h.next hg hR, h0, h1, hg⟩
theorem EV.grown {lo : Nat} {W W' : World} {b d : Nat} {v : Value} {e : Ex} (h : EV lo W.heap.size W d v e) (hg : W.grownBy W' (some b)) (hb : b < lo) : EV lo W'.heap.size W' d v e :=
  (h.kept (same_grown hg hb (Nat.le_refl _))).mono (Nat.le_refl _) hg.size

set_option maxHeartbeats 4000000 in
set_option maxRecDepth 20000 in
theorem gen0 : GenE 0 := by
  intro b p w hR hp
  have G0 := Uses.hide (Gs.new w b p hR (.int .i64 0) (.int .i64 0) (.string ⟨#[]⟩) (.slice none 0 0) (.slice none 0 0) 26)
  clear hR
  simp only [Nat.pow_zero, Nat.mul_one] at hp
  go_enter Try.func17, Try.ntmps17
  go_wp2_with fail
  refine ((Uses.unhide G0).pick (by omega) 10).mono ?_
  rintro e W1 ⟨r, rfl, r0, r1, hG1⟩
  have G1 := Uses.hide hG1
  clear G0 hG1
  go_wp2_with fail
  refine ((Uses.unhide G1).pick (by omega) 2).mono ?_
  rintro e W2 ⟨r', rfl, r0', r1', hG2⟩
  have G2 := Uses.hide hG2
  clear G1 hG2
  by_cases e0 : r' = 0
  · subst e0
    go_wp2_with fail
    refine ((Uses.unhide G2).nums (by omega) isK 12 _ rfl 0 [1, 2, 10, 99, 500, 1000, -5, -100, 12345, 1000000000, -1000000000] rfl (by omega) _ k1).mono ?_
    rintro e W3 ⟨y, rfl, hy, hG3⟩
    have G3 := Uses.hide hG3
    obtain ⟨_, v0, v1, v2, v3, v4, ⟨c0, c1, c2, c3, c4⟩, hf⟩ := hG3.box
    clear hG3 G2
    go_wp2
    obtain ⟨z0, z1, z2, z3, z4⟩ := put5_back (Uses.unhide G3).box (.int .i64 1) (.int .i64 y) (.string ⟨#[]⟩) (.slice none 0 0) (.slice none 0 0)
    exact bodyPost_ret (v := .agg #[.int .i64 1, .int .i64 y, .string ⟨#[]⟩, .slice none 0 0, .slice none 0 0]) (by simp [results, Try.results17, go_sem, z0, z1, z2, z3, z4]) rfl ⟨_, rfl, (Uses.unhide G3).out ⟨by show (0 : Nat) ≤ 8; omega, Rule.nil_oth⟩ hy ⟨by simp, Rule.noL0 _⟩ (Nat.le_refl _) (ES.nought _ _ _ _ _ _) (.inl rfl) (.inl ⟨rfl, rfl⟩) (by rw [wtL0]; show 0 + 0 + 0 ≤ _; omega) (by omega) (by rw [Nat.pow_zero]; omega)⟩
  · obtain rfl : r' = 1 := by omega
    go_wp2_with fail
    refine ((Uses.unhide G2).words (by omega) Rule.isWd 4 _ rfl ⟨#[99, 97, 108, 108, 115]⟩ [⟨#[103, 98]⟩, ⟨#[115, 101, 97, 116, 115]⟩, ⟨#[120]⟩] rfl (by omega) _ u1).mono ?_
    rintro e W3 ⟨y, rfl, hy, hG3⟩
    have G3 := Uses.hide hG3
    unfold Rule.isWd at hy
    obtain ⟨_, v0, v1, v2, v3, v4, ⟨c0, c1, c2, c3, c4⟩, hf⟩ := hG3.box
    clear hG3 G2
    go_wp2
    obtain ⟨z0, z1, z2, z3, z4⟩ := put5_back (Uses.unhide G3).box (.int .i64 2) (.int .i64 0) (.string y) (.slice none 0 0) (.slice none 0 0)
    exact bodyPost_ret (v := .agg #[.int .i64 2, .int .i64 0, .string y, .slice none 0 0, .slice none 0 0]) (by simp [results, Try.results17, go_sem, z0, z1, z2, z3, z4]) rfl ⟨_, rfl, (Uses.unhide G3).out hy (by omega) ⟨by simp, Rule.noL0 _⟩ (Nat.le_refl _) (ES.nought _ _ _ _ _ _) (.inl rfl) (.inl ⟨rfl, rfl⟩) (by rw [wtL0, Nat.pow_zero, List.length_nil]; omega) (by omega) (by rw [Nat.pow_zero]; omega)⟩
end Go.Proofs.Ytdpefmjlmpjjbaa.Draw
