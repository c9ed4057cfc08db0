/-
  DrawRuleRun: a drawn expression, what was used, and fuel.
-/
import Derived.Test.YtdpefmjlmpjjbaaGen5
namespace Go.Proofs.Ytdpefmjlmpjjbaa.Draw
set_option linter.unusedVariables false
open Go.RowKit
open Rule (Ex EV ES TL Same wt wtL oth noE noL)

def isF (z : Int) : Prop := -1 ≤ z ∧ z ≤ 1001
theorem f1 : ∀ z ∈ ([100, 100, 100, 1, 3, 6, 0, -1, 1001] : List Int), isF z := by
  intro z hz
  simp only [List.mem_cons, List.not_mem_nil, or_false] at hz
  unfold isF
  omega
/-- what is handed out -/
def RrOut (w w' : World) (v uv : Value) (f : Int) : Prop := ∃ (e : Ex) (d lo hi : Nat) (us : List Uses.U), EV lo hi w' d v e ∧ hi ≤ w'.heap.size ∧ (wt e ≤ 100000 ∧ noE oth e) ∧ Uses.UR w' uv us ∧ us.length ≤ 3 ∧ isF f ∧ Below w.heap.size w w'
theorem RrOut.mk {w w1 w2 w3 w4 W : World} {v : Value} {e : Ex} {d g c : Nat} {us : List Uses.U} {f : Int} (h01 : Below w.heap.size w w1) (hlt : w.heap.size + 1 < w1.heap.size) (hE : EV w1.heap.size w2.heap.size w2 d v e) (hw : wt e ≤ 100000 ∧ noE oth e) (h12 : w1.grownBy w2 (some (w.heap.size + 1))) (h23 : w2.grownBy w3 (some (w.heap.size + 1))) (h34 : w3.grownBy w4 (some (w.heap.size + 1))) (h4 : w4.grownBy W (some w.heap.size))
    (hU : OwnU w3 w2.heap.size g c us) (hl : us.length ≤ 3) (hf : isF f) : RrOut w W v (.slice (some ⟨g, 0, none⟩) us.length c) f := by
  have h24 := grown_trans h23 h34
  have s2 := h12.size
  have s4 := h24.size
  refine ⟨e, d, w1.heap.size, w2.heap.size, us, ?_, Nat.le_trans h24.size h4.size, hw, OwnU.ur ((hU.kept h34 (by have := hU.lt; simp; omega)).kept h4 (by have := hU.lt; simp; omega)), hl, hf, ?_⟩
  · exact hE.kept (fun j h1 h2 => (h4.block j (by omega) (by simp; omega)).trans (h24.block j (by omega) (by simp; omega)))
  · exact ((h01.grown h12 h01.size (fun j hj => by cases hj; omega)).grown h24 (Nat.le_trans h01.size h12.size) (fun j hj => by cases hj; omega)).grown h4 (Nat.le_trans h01.size (Nat.le_trans h12.size h24.size)) (fun j hj => by cases hj; exact Nat.le_refl _)

set_option maxHeartbeats 8000000 in
set_option maxRecDepth 20000 in
/-- DrawRuleRun -/
theorem drawRun (a : Option Addr) (len cap : Nat) (w : World) (h : Bytes w a len cap) :
    Calls Try.prog 4 #[.slice a len cap] w fun x w' => ∃ v uv f, x = .returned (.tuple #[v, uv, .int .i64 f]) ∧ RrOut w w' v uv f := by
  have hb0 : Below w.heap.size w (w.alloc (.cells #[.int .i64 0, .int .i64 0, .string ⟨#[]⟩, .slice none 0 0, .slice none 0 0] 26)) := (Below.refl _ _).alloc (Nat.le_refl _) _
  have X0 := Uses.hide (Bx.new w (.int .i64 0) (.int .i64 0) (.string ⟨#[]⟩) (.slice none 0 0) (.slice none 0 0) 26)
  have H := Uses.hide (h.kept hb0)
  have B0 := Uses.hide hb0
  have hz0 : (w.alloc (.cells #[.int .i64 0, .int .i64 0, .string ⟨#[]⟩, .slice none 0 0, .slice none 0 0] 26)).heap.size = w.heap.size + 1 := by simp
  clear h hb0
  go_enter Try.func4, Try.ntmps4
  go_wp2_with fail
  refine (openR a len cap _ (Uses.unhide H)).mono ?_
  rintro x w1 ⟨rfl, hR1, hb1⟩
  have z1 := hR1.lt
  have R1 := Uses.hide hR1
  have B1 := Uses.hide (Draw.below_trans (Uses.unhide B0) hb1)
  have X1 := Uses.hide ((Uses.unhide X0).grown (grown_of_below hb1 none) (by simp))
  rw [hz0] at R1 z1 ⊢
  clear hR1 hb1 B0 X0 hz0
  go_wp2_with fail
  refine (rule2 (w.heap.size + 1) 0 _ (Uses.unhide R1) (by omega)).mono ?_
  rintro x w2 ⟨v, rfl, e, d, q2, hE, hw, hR2, _, hq2, hg2⟩
  obtain ⟨k, n, m, ka, kn, kc, ta, tn, tc, rfl⟩ := EV.form hE
  have E2 := Uses.hide hE
  have G2 := Uses.hide hg2
  have R2 := Uses.hide (hR2.kept (World.grownBy_alloc w2 (.cells #[.int .i64 k, .int .i64 n, .string m, .slice ka kn kc, .slice ta tn tc] 26) none) (by simp))
  have X2 := Uses.hide ((Uses.unhide X1).grown hg2 (by simp))
  have N2 := Uses.hide (Rule.new5 w2 (.int .i64 k) (.int .i64 n) (.string m) (.slice ka kn kc) (.slice ta tn tc) 26)
  have z2 := hg2.size
  clear hE hR2 hg2 X1 R1
  go_wp2_with fail
  refine (uses (w.heap.size + 1) q2 _ (Uses.unhide R2) (by omega)).mono ?_
  rintro x w3 ⟨g, un, uc, q3, us, rfl, rfl, hu3, hO3, hR3, _, hq3, hg3⟩
  have hg23 := grown_trans (World.grownBy_alloc w2 (.cells #[.int .i64 k, .int .i64 n, .string m, .slice ka kn kc, .slice ta tn tc] 26) (some (w.heap.size + 1))) hg3
  have G3 := Uses.hide hg23
  have R3 := Uses.hide hR3
  have O3 := Uses.hide (show OwnU w3 w2.heap.size g uc us from ownsRow_le hO3 (by simp))
  have hb3 : Hid (∀ W, w3.grownBy W (some (w.heap.size + 1)) → (W.cell? ⟨w2.heap.size, 0, none⟩ = some (.int .i64 k) ∧ W.cell? ⟨w2.heap.size, 1, none⟩ = some (.int .i64 n) ∧ W.cell? ⟨w2.heap.size, 2, none⟩ = some (.string m) ∧ W.cell? ⟨w2.heap.size, 3, none⟩ = some (.slice ka kn kc) ∧ W.cell? ⟨w2.heap.size, 4, none⟩ = some (.slice ta tn tc)) ∧ Bx W w.heap.size) := Uses.hide (fun W hW => by
    obtain ⟨n0, n1, n2, n3, n4⟩ := Uses.unhide N2
    have hx := grown_trans hg3 hW
    have hne : ∀ o : Nat, some (⟨w2.heap.size, o, none⟩ : Addr).block ≠ some (w.heap.size + 1) := fun o => by simp; omega
    exact ⟨⟨hx.cell n0 (hne _), hx.cell n1 (hne _), hx.cell n2 (hne _), hx.cell n3 (hne _), hx.cell n4 (hne _)⟩, (Uses.unhide X2).grown (grown_trans hg23 hW) (by simp)⟩)
  have z3 : w2.heap.size < w3.heap.size := by have := hg3.size; simp at this; omega
  clear hO3 hR3 hg3 hg23 R2 N2 X2
  obtain ⟨⟨c0, c1, c2, c3, c4⟩, _⟩ := Uses.unhide hb3 w3 (World.grownBy.refl _ _)
  have hne : w2.heap.size ≠ w3.heap.size := by omega
  go_wp2
  go_region_with (first | (go_at_call 11; refine (num isF (w.heap.size + 1) q3 w3.heap.size 0 9 9 _ (((Uses.unhide R3).kept (World.grownBy_alloc w3 _ none) (by simp)).kept (grown_drew1 _ none) (by simp)) (by omega) (by omega) (by omega) (by omega) (new_nums isF w3 [100, 100, 100, 1, 3, 6, 0, -1, 1001] 3 f1)).mono ?_; rintro x w4 ⟨f, rfl, hf, hR4, hg4⟩; have G4 := Uses.hide (grown_trans (grown_trans (World.grownBy_alloc w3 _ (some (w.heap.size + 1))) (grown_drew1 _ _)) hg4); obtain ⟨⟨e0, e1, e2, e3, e4⟩, hbx⟩ := Uses.unhide hb3 w4 (Uses.unhide G4); have XB := Uses.hide hbx; obtain ⟨_, v0, v1, v2, v3, v4, ⟨b0, b1, b2, b3, b4⟩, hfz⟩ := hbx; clear hR4 hg4) | fail)
  all_goals go_wp2
  all_goals (obtain ⟨y0, y1, y2, y3, y4⟩ := put5_back (Uses.unhide XB) (.int .i64 k) (.int .i64 n) (.string m) (.slice ka kn kc) (.slice ta tn tc))
  all_goals exact bodyPost_ret (v := .tuple #[.agg #[.int .i64 k, .int .i64 n, .string m, .slice ka kn kc, .slice ta tn tc], .slice (some ⟨g, 0, none⟩) us.length uc, .int .i64 f]) (by simp [results, Try.results4, go_sem, y0, y1, y2, y3, y4]) rfl ⟨_, _, _, rfl, RrOut.mk (Uses.unhide B1) z1 (Uses.unhide E2) hw (Uses.unhide G2) (Uses.unhide G3) (Uses.unhide G4) (put5_grown _ _ _ _ _ _ _) (Uses.unhide O3) hu3 hf⟩
end Go.Proofs.Ytdpefmjlmpjjbaa.Draw
