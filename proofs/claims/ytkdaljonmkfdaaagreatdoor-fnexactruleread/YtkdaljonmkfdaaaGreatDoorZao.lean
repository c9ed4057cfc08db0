/-
  Texts of this proof laid together, in build order; each says of itself what it holds.
-/
import Derived.Test.YtkdaljonmkfdaaaGreatDoorZan
import Derived.Test.YtkdaljonmkfdaaaGreatDoorZag
section
/-
  The law on RuleRead.
-/
namespace Go.Proofs.YtkdaljonmkfdaaaGreatDoor.Rule
set_option linter.unusedVariables false
open Go.RowKit
open Tiers (T T0 TR hide unhide below_trans)
open Kinds hiding hide unhide below_trans ext_toList

/-- what is read of a text: an expression, or none -/
def OutR (t : List UInt8) (ok : Bool) (e : Ex) : Prop := (ok = true ∧ IsRule t e) ∨ (ok = false ∧ e = E0 ∧ ∀ e', ¬ IsRule t e')
theorem OutR.one {t : List UInt8} {ok ok' : Bool} {e e' : Ex} (h : OutR t ok e) (h' : OutR t ok' e') : ok = ok' ∧ e = e' := by
  rcases h with ⟨rfl, h⟩ | ⟨rfl, rfl, h⟩
  · rcases h' with ⟨rfl, h'⟩ | ⟨rfl, rfl, h'⟩
    · exact ⟨rfl, h.one h'⟩
    · exact absurd h (h' _)
  · rcases h' with ⟨rfl, h'⟩ | ⟨rfl, rfl, h'⟩
    · exact absurd h' (h _)
    · exact ⟨rfl, rfl⟩
theorem OutR.wt {t : List UInt8} {ok : Bool} {e : Ex} (h : OutR t ok e) : wt e ≤ 100000 := by
  rcases h with ⟨_, h⟩ | ⟨_, rfl, _⟩
  · have h1 := exprS_wt _ _ _ _ h.read
    have h2 := h.2.2
    simp at h1; omega
  · decide
theorem ReadOut.out {w w' : World} {t : List UInt8} {v : Value} {ok : Bool} (h : ReadOut w w' t v ok) (hb : w.heap.size ≤ w'.heap.size) : ∃ e d, OutR t ok e ∧ EV w.heap.size w'.heap.size w' d v e := by
  cases ok with
  | true =>
    obtain ⟨e, d, h1, h2⟩ := h.1 rfl
    exact ⟨e, d, .inl ⟨rfl, h1⟩, h2⟩
  | false =>
    obtain ⟨rfl, h2⟩ := h.2 rfl
    exact ⟨E0, 0, .inr ⟨rfl, rfl, h2⟩, .slice none 0 0, .slice none 0 0, rfl, ⟨by decide, by decide⟩, ⟨rfl, _, _, rfl⟩, .inl ⟨rfl, _, _, rfl⟩⟩
theorem ReadOutI.out {w w' : World} {t : List UInt8} {v : Value} {ok : Bool} (h : ReadOutI w w' t v ok) (hb : w.heap.size ≤ w'.heap.size) : ∃ e kv tv d, OutR t ok e ∧ v = .agg #[.int .i64 e.kind, .int .i64 e.num, .string e.meter, kv, tv] ∧ OX w' d w.heap.size w'.heap.size (e, kv, tv) := by
  cases ok with
  | true =>
    obtain ⟨e, kv, tv, d, h1, h2, h3⟩ := h.1 rfl
    exact ⟨e, kv, tv, d, .inl ⟨rfl, h1⟩, h2, h3⟩
  | false =>
    obtain ⟨rfl, h2⟩ := h.2 rfl
    exact ⟨E0, .slice none 0 0, .slice none 0 0, 0, .inr ⟨rfl, rfl, h2⟩, rfl, ⟨by decide, by decide⟩, w.heap.size, OS.nil _ _ (Nat.le_refl _), OT.nil _ _ hb⟩

/-- both answers as one -/
theorem ansS (s : ByteArray) (w : World) (hs : s.size ≤ maxLen) : Calls Tryz.prog 6 #[.string s] w fun x w' => ∃ v ok e d, x = .returned (.tuple #[v, .bool ok]) ∧ OutR s.data.toList ok e ∧ EV w.heap.size w'.heap.size w' d v e ∧ Below w.heap.size w w' := by
  refine (readS s w hs).mono ?_
  rintro x w' ⟨v, ok, rfl, h, hb⟩
  obtain ⟨e, d, h1, h2⟩ := h.out hb.size
  exact ⟨v, ok, e, d, rfl, h1, h2, hb⟩
theorem ansI (s : ByteArray) (w : World) (hs : s.size ≤ maxLen) (he : EnvR w) : Calls Tryz.prog 7 #[.string s] w fun x w' => ∃ ok e kv tv d, x = .returned (.tuple #[.agg #[.int .i64 e.kind, .int .i64 e.num, .string e.meter, kv, tv], .bool ok]) ∧ OutR s.data.toList ok e ∧ OX w' d w.heap.size w'.heap.size (e, kv, tv) ∧ Below w.heap.size w w' := by
  refine (readRI s w hs he).mono ?_
  rintro x w' ⟨v, ok, rfl, h, hb⟩
  obtain ⟨e, kv, tv, d, h1, rfl, h3⟩ := h.out hb.size
  exact ⟨ok, e, kv, tv, d, rfl, h1, h3, hb⟩

theorem Box.keptB {W W' : World} {B : Nat} {e : Ex} {ka : Option Addr} {kc : Nat} {ta : Option Addr} {tc : Nat} (h : Box W B e ka kc ta tc) (hb : W'.heap[B]? = W.heap[B]?) : Box W' B e ka kc ta tc :=
  ⟨(World.cell?_of_block (w := W) hb).trans h.1, (World.cell?_of_block (w := W) hb).trans h.2.1, (World.cell?_of_block (w := W) hb).trans h.2.2.1, (World.cell?_of_block (w := W) hb).trans h.2.2.2.1, (World.cell?_of_block (w := W) hb).trans h.2.2.2.2⟩

set_option maxRecDepth 20000 in
set_option maxHeartbeats 2000000 in
theorem lawRead (s : ByteArray) (w : World) (hs : s.size ≤ maxLen) (he : EnvR w) :
    Calls Tryz.prog 3 #[.string s] w fun x w' => x = .returned (.bool true) ∧ Below w.heap.size w w' := by
  have hs' := hs
  unfold maxLen at hs
  by_cases h1 : (1048576 : Int) < s.size
  · go_enter Tryz.func3, Tryz.ntmps3
    go_wp2_with (fail)
    go_ret
    exact ⟨rfl, by first | exact Below.refl _ _ | exact below_alloc _ _⟩
  have HE := hide he
  clear he
  go_enter Tryz.func3, Tryz.ntmps3
  go_wp2_with (fail)
  refine (ansS s w hs').mono ?_
  rintro x w1 ⟨vS, ok, e, dS, rfl, hO, hS, hb1⟩
  obtain ⟨ka, kc, ta, tc, rfl⟩ := hS.form
  have hwt := hO.wt
  have HO := hide hO
  have HS := hide hS
  have B1 := hide hb1
  have hz1 := hb1.size
  clear hO hS hb1
  go_wp2_with (fail)
  have hX1 := Box.new w1 e ka kc ta tc 25
  have B1a := hide (below_trans (unhide B1) (below_alloc w1 (.cells #[.int .i64 e.kind, .int .i64 e.num, .string e.meter, .slice ka e.kids.length kc, .slice ta e.tiers.length tc] 25)))
  have HS1 := hide (keptE (unhide HS) (Nat.le_refl _) (below_alloc w1 (.cells #[.int .i64 e.kind, .int .i64 e.num, .string e.meter, .slice ka e.kids.length kc, .slice ta e.tiers.length tc] 25)))
  have hz1a : (w1.alloc (.cells #[.int .i64 e.kind, .int .i64 e.num, .string e.meter, .slice ka e.kids.length kc, .slice ta e.tiers.length tc] 25)).heap.size = w1.heap.size + 1 := by simp
  generalize w1.alloc (.cells #[.int .i64 e.kind, .int .i64 e.num, .string e.meter, .slice ka e.kids.length kc, .slice ta e.tiers.length tc] 25) = W1 at *
  have X1 := hide hX1
  clear hX1
  refine (ansI s W1 hs' ((unhide HE).kept (unhide B1a))).mono ?_
  rintro x w2 ⟨ok2, e2, kv, tv, dG, rfl, hO2, hG, hb2⟩
  obtain ⟨hok, hee⟩ := (unhide HO).one hO2
  subst hok hee
  obtain ⟨xa, xc, hxf, _⟩ := hG.2.choose_spec.1.es.form
  obtain ⟨ya, yc, hyf⟩ := hG.2.choose_spec.2.tl.form
  simp only at hxf hyf
  subst hxf hyf
  have hz2 := hb2.size
  have B2 := hide (below_trans (unhide B1a) hb2)
  have X2 := hide ((unhide X1).kept hb2)
  have HS2 := hide (keptE (unhide HS1) (by omega) hb2)
  have HG2 := hide hG
  clear hO2 hG hb2 X1 HS1 HS B1 B1a
  have hY := Box.new w2 e xa xc ya yc 25
  have hbw := below_alloc w2 (.cells #[.int .i64 e.kind, .int .i64 e.num, .string e.meter, .slice xa e.kids.length xc, .slice ya e.tiers.length yc] 25)
  have B3 := hide (below_trans (unhide B2) hbw)
  have hX3 := (unhide X2).kept hbw
  have HS3 := hide (keptE (unhide HS2) (by omega) hbw)
  have HG3 := hide ((unhide HG2).kept (same_below hbw (Nat.le_refl _)))
  have hz3 : (w2.alloc (.cells #[.int .i64 e.kind, .int .i64 e.num, .string e.meter, .slice xa e.kids.length xc, .slice ya e.tiers.length yc] 25)).heap.size = w2.heap.size + 1 := by simp
  have X3 := hide hX3
  have Y3 := hide hY
  have HZ3 := hide hz3
  obtain ⟨c0, c1, c2, c3, c4⟩ := hX3
  clear hbw B2 X2 HS2 HG2 hY hz3
  go_wp2_with (fail)
  clear c0 c1 c2 c3 c4
  generalize w2.alloc (.cells #[.int .i64 e.kind, .int .i64 e.num, .string e.meter, .slice xa e.kids.length xc, .slice ya e.tiers.length yc] 25) = W3 at *
  have hz3 := unhide HZ3
  refine (eqE_all dG W1.heap.size w2.heap.size w.heap.size w1.heap.size dS _ _ e W3 (unhide HG3).ev (unhide HS3) (by omega) (by omega) (by omega)).mono ?_
  rintro x w4 ⟨rfl, hb4⟩
  have B4 := hide (below_trans (unhide B3) hb4)
  have X4 := hide ((unhide X3).kept hb4)
  have hY4 := (unhide Y3).kept hb4
  have Y4 := hide hY4
  have HS4 := hide (keptE (unhide HS3) (by omega) hb4)
  have HG4 := hide ((unhide HG3).kept (same_below hb4 (by omega)))
  have hz4 := hb4.size
  have hbb : (ok != ok) = false := by simp
  obtain ⟨g0, g1, g2, g3, g4⟩ := hY4
  clear hb4 B3 X3 Y3 HS3 HG3
  go_wp2_with (fail)
  have hM := markX dG W1.heap.size w2.heap.size e (.slice xa e.kids.length xc) (.slice ya e.tiers.length yc) 1 w4 (unhide HG4) (by omega) (by omega) (by omega)
  refine hM.mono ?_
  rintro x w5 ⟨e', k', rfl, ⟨m1, m2, m3⟩, hk', hmk, hG5, hout⟩
  have hz5 := hout.size
  have B5 := hide ((unhide B4).trans (hout.toBelow (B := w.heap.size) (by omega) (by omega)))
  have X5 := hide ((unhide X4).keptB (hout.block w1.heap.size (by omega) (by omega)))
  have hY5 := (unhide Y4).keptB (hout.block w2.heap.size (by omega) (by omega))
  have Y5 := hide hY5
  have HS5 := hide ((unhide HS4).kept (hout.same (.inl (by omega)) (by omega)))
  have hev := hG5.ev
  rw [m1, m2, m3] at hev
  have HV5 := hide hev
  have HMK := hide hmk
  have hkn : ¬ ((k' : Int) < 0) := by omega
  have hkk : ((k' : Int) != (k' : Int)) = false := by simp
  clear hM g0 g1 g2 g3 g4 hG5 hev hmk hout B4 X4 Y4 HS4 HG4 m1 m2 m3
  obtain ⟨g0, g1, g2, g3, g4⟩ := hY5
  go_wp2_with (fail)
  have hH := heldX dG W1.heap.size w2.heap.size e' _ 1 k' w5 (unhide HV5) (unhide HMK) (by omega) (by omega) hk'
  refine hH.mono ?_
  rintro x w6 ⟨rfl, hb6⟩
  have hz6 := hb6.size
  have B6 := hide (below_trans (unhide B5) hb6)
  have X6 := hide ((unhide X5).kept hb6)
  have Y6 := hide ((unhide Y5).kept hb6)
  have HS6 := hide (keptE (unhide HS5) (by omega) hb6)
  have HV6 := hide ((unhide HV5).kept (same_below hb6 (by omega)))
  clear hH hb6 B5 X5 Y5 HS5 HV5 g0 g1 g2 g3 g4
  go_wp2_with (fail)
  refine (ansI s w6 hs' ((unhide HE).kept (unhide B6))).mono ?_
  rintro x w7 ⟨ok2, e2, kv, tv, dH, rfl, hO2, hG, hb7⟩
  obtain ⟨hok, hee⟩ := (unhide HO).one hO2
  subst hok hee
  obtain ⟨za, zc, hxf, _⟩ := hG.2.choose_spec.1.es.form
  obtain ⟨ua, uc, hyf⟩ := hG.2.choose_spec.2.tl.form
  simp only at hxf hyf
  subst hxf hyf
  have hz7 := hb7.size
  have hbw := below_alloc w7 (.cells #[.int .i64 e.kind, .int .i64 e.num, .string e.meter, .slice za e.kids.length zc, .slice ua e.tiers.length uc] 25)
  have hb8 := below_trans hb7 hbw
  have B8 := hide (below_trans (unhide B6) hb8)
  have hX8 := (unhide X6).kept hb8
  have Y8 := hide ((unhide Y6).kept hb8)
  have HS8 := hide (keptE (unhide HS6) (by omega) hb8)
  have HV8 := hide ((unhide HV6).kept (same_below hb8 (by omega)))
  have HG8 := hide (hG.kept (same_below hbw (Nat.le_refl _)))
  have HZ8 : Hid ((w7.alloc (.cells #[.int .i64 e.kind, .int .i64 e.num, .string e.meter, .slice za e.kids.length zc, .slice ua e.tiers.length uc] 25)).heap.size = w7.heap.size + 1) := hide (by simp)
  obtain ⟨c0, c1, c2, c3, c4⟩ := hX8
  clear hO2 hG hb7 hbw hb8 B6 X6 Y6 HS6 HV6
  go_wp2_with (fail)
  clear c0 c1 c2 c3 c4
  generalize w7.alloc (.cells #[.int .i64 e.kind, .int .i64 e.num, .string e.meter, .slice za e.kids.length zc, .slice ua e.tiers.length uc] 25) = W8 at *
  have hz8 := unhide HZ8
  refine (eqE_all dH w6.heap.size w7.heap.size w.heap.size w1.heap.size dS _ _ e W8 (unhide HG8).ev (unhide HS8) (by omega) (by omega) (by omega)).mono ?_
  rintro x w9 ⟨rfl, hb9⟩
  have hz9 := hb9.size
  have B9 := hide (below_trans (unhide B8) hb9)
  have hY9 := (unhide Y8).kept hb9
  have HV9 := hide ((unhide HV8).kept (same_below hb9 (by omega)))
  have hbb : (ok != ok) = false := by simp
  obtain ⟨g0, g1, g2, g3, g4⟩ := hY9
  clear hb9 B8 Y8 HS8 HV8 HG8
  go_wp2_with (fail)
  have hH := heldX dG W1.heap.size w2.heap.size e' _ 1 k' w9 (unhide HV9) (unhide HMK) (by omega) (by omega) hk'
  refine hH.mono ?_
  rintro x w10 ⟨rfl, hb10⟩
  have B10 := hide (below_trans (unhide B9) hb10)
  clear hH hb10 B9 HV9 g0 g1 g2 g3 g4
  go_wp2_with (fail)
  go_ret
  exact ⟨rfl, unhide B10⟩
end Go.Proofs.YtkdaljonmkfdaaaGreatDoor.Rule
end
