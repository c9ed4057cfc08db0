/-
  FnRuleStep: the law's walk.
-/
import Derived.Test.YtjjfmpinekiheaaDrawSt
import Derived.Test.YtjjfmpinekiheaaStepM2
import Derived.Test.YtjjfmpinekiheaaStepI2
namespace Go.Proofs.Ytjjfmpinekiheaa.Law
set_option linter.unusedVariables false
open Go.RowKit
open Tiers (hide unhide T T0 TR TC stepV stepB)

theorem stepV_no {l : List T} {q : Int} (h : stepB l q = false) : stepV l q = 0 := by
  unfold Tiers.stepV
  split
  · rename_i hh
    unfold Tiers.stepB at h
    rw [hh.1, hh.2] at h
    simp only [Bool.true_and, Option.isSome_eq_false_iff, Option.isNone_iff_eq_none] at h
    rw [h]; rfl
  · rfl

set_option maxHeartbeats 1600000 in
set_option maxRecDepth 100000 in
theorem ruleStep (a0 : Option Addr) (len0 cap0 : Nat) (a1 : Option Addr) (len1 cap1 : Nat) (w : World) (hB : Draw.Bytes w a0 len0 cap0) (hC : Draw.Bytes w a1 len1 cap1) :
    Calls Try.prog 4 #[.slice a0 len0 cap0, .slice a1 len1 cap1] w fun e w' => e = .returned (.bool true) ∧ Below w.heap.size w w' := by
  by_cases hl : 1048576 < len0
  · go_enter Try.func4, Try.ntmps4
    go_wp2
    go_ret
    exact ⟨rfl, Below.refl _ _⟩
  by_cases hl1 : 1048576 < len1
  · go_enter Try.func4, Try.ntmps4
    go_wp2
    go_ret
    exact ⟨rfl, Below.refl _ _⟩
  go_enter Try.func4, Try.ntmps4
  go_wp2_with fail
  refine (Draw.drawStep a0 len0 cap0 w hB).mono ?_
  rintro e w1 ⟨n, g, m, c, l, rfl, hn, rfl, hm, hO, hb1⟩
  obtain ⟨n1, n2⟩ := hn
  have H1 := hide (Draw.OwnT.tr hO)
  have B1 := hide hb1
  clear hB hC hl hO hb1
  go_wp2_with fail
  refine (Tiers.stepI _ l n _ (unhide H1) (by omega)).mono ?_
  rintro e w2 ⟨rfl, hb2⟩
  have H2 := hide ((unhide H1).kept hb2)
  have B2 := hide (Tiers.below_trans (unhide B1) hb2)
  clear H1 B1 hb2
  go_wp2_with fail
  refine (Tiers.stepS _ l n _ (unhide H2) (by omega)).mono ?_
  rintro e w3 ⟨rfl, hb3⟩
  have H3 := hide ((unhide H2).kept hb3)
  have B3 := hide (Tiers.below_trans (unhide B2) hb3)
  clear H2 B2 hb3
  have hx : ((stepV l n) != (stepV l n)) = false := by simp
  cases hs : stepB l n
  · have hz := stepV_no hs
    rw [hz]
    clear hx
    go_wp2_with fail
    go_ret
    exact ⟨rfl, unhide B3⟩
  obtain ⟨x1, x2⟩ := Tiers.stepV_bd l n
  have HS := hide hs
  clear hs
  generalize hxe : stepV l n = x at *
  have HX := hide hxe
  clear hxe
  go_wp2_with fail
  refine (Tiers.stepI _ l (n + 1) _ ((unhide H3).kept ⟨rfl, rfl, rfl, Nat.le_refl _, fun _ _ => rfl⟩) (by omega)).mono ?_
  rintro e w4 ⟨rfl, hb4⟩
  have H4 := hide ((unhide H3).kept ⟨hb4.os, hb4.tape, hb4.output, hb4.size, hb4.block⟩)
  have B4 := hide (Tiers.below_trans (unhide B3) ⟨hb4.os, hb4.tape, hb4.output, hb4.size, hb4.block⟩)
  clear H3 B3 hb4
  generalize hye : stepV l (n + 1) = y at *
  generalize hyb : stepB l (n + 1) = yb at *
  have HY := hide hye
  have HYB := hide hyb
  clear hye hyb
  go_wp2_with fail
  refine (Tiers.stepI _ l (n + len1) _ (unhide H4) (by omega)).mono ?_
  rintro e w5 ⟨rfl, hb5⟩
  have H5 := hide ((unhide H4).kept hb5)
  have B5 := hide (Tiers.below_trans (unhide B4) hb5)
  clear H4 B4 hb5
  generalize hze : stepV l (n + len1) = z at *
  generalize hzb : stepB l (n + len1) = zb at *
  have HZ := hide hze
  have HZB := hide hzb
  clear hze hzb
  have xn : n ≤ 0 → x = 0 := fun h => (unhide HX).symm.trans (Tiers.step_nought (unhide HS) h)
  have xy : yb = true → x ≤ y := fun h => by
    have := Tiers.step_mono (unhide HS) ((unhide HYB).trans h) (by omega)
    rw [unhide HX, unhide HY] at this
    exact this
  have xz : zb = true → x ≤ z := fun h => by
    have := Tiers.step_mono (unhide HS) ((unhide HZB).trans h) (by omega)
    rw [unhide HX, unhide HZ] at this
    exact this
  have xo : yb = true → 0 ≤ n → ∃ i, ∃ hi : i < l.length, l[i].2 = y - x := fun h h0 => by
    have := Tiers.step_one (unhide HS) ((unhide HYB).trans h) h0
    rw [unhide HX, unhide HY] at this
    exact this
  have y1 := Tiers.stepV_bd l (n + 1)
  rw [unhide HY] at y1
  obtain ⟨y1, y2⟩ := y1
  clear HX HY HZ HS HYB HZB
  have XO := hide xo
  clear xo
  cases yb
  · clear xy XO
    cases zb
    · clear xz
      by_cases hn0 : n ≤ 0
      · obtain rfl := xn hn0
        clear xn
        go_wp2_with fail
        go_ret
        exact ⟨rfl, unhide B5⟩
      · clear xn
        go_wp2_with fail
        go_ret
        exact ⟨rfl, unhide B5⟩
    · have xz' := xz rfl
      clear xz
      by_cases hn0 : n ≤ 0
      · obtain rfl := xn hn0
        clear xn
        go_wp2_with fail
        go_ret
        exact ⟨rfl, unhide B5⟩
      · clear xn
        go_wp2_with fail
        go_ret
        exact ⟨rfl, unhide B5⟩
  · have xy' := xy rfl
    clear xy
    cases zb
    · clear xz
      by_cases hn1 : n < 0
      · obtain rfl := xn (by omega)
        clear xn XO
        go_wp2_with fail
        go_ret
        exact ⟨rfl, unhide B5⟩
      by_cases hn0 : n ≤ 0
      · obtain rfl := xn hn0
        clear xn
        obtain ⟨i0, hi0, e0⟩ := unhide XO rfl (by omega)
        have hc : TC w5 g 0 l := by
          rcases unhide H5 with ⟨hl0, _⟩ | ⟨b, o, cap, e, hc⟩
          · subst hl0; simp at hi0
          · simp only [Value.slice.injEq, Option.some.injEq, Addr.mk.injEq] at e
            obtain ⟨⟨rfl, rfl, _⟩, _⟩ := e
            exact hc
        have HC := hide hc
        have e0' : (l.getD i0 T0).2 = y := by
          have hg : l.getD i0 T0 = l[i0] := by simp [List.getD, hi0]
          rw [hg]; omega
        clear hc e0 XO H5
        go_wp2_with fail
        go_loop [15] (fun i => ∃ k : Nat, k ≤ l.length ∧ i = .int .i64 k ∧ Hid (∀ j, j < k → (l.getD j T0).2 ≠ y)) (fun i => l.length - (intOf i).toNat)
        case atStart => exact ⟨0, Nat.zero_le _, rfl, hide (fun j hj => by omega)⟩
        case round =>
          obtain ⟨k, hk, rfl, hd⟩ := hrel
          by_cases hlt : k < l.length
          · obtain ⟨c0, c1⟩ := (unhide HC).2 k hlt
            simp only [Nat.zero_add] at c0 c1
            have HD : Hid ((l.getD k T0).2 ≠ y → ∀ j, j < k + 1 → (l.getD j T0).2 ≠ y) := hide (fun h j hj => by
              by_cases e : j = k
              · rw [e]; exact h
              · exact unhide hd j (by omega))
            clear hd e0'
            generalize (l.getD k T0).1 = s at *
            generalize (l.getD k T0).2 = p at *
            by_cases hp : p = y
            · subst hp
              go_wp2
              go_ret
              exact ⟨rfl, unhide B5⟩
            · go_wp2
              exact ⟨⟨k + 1, by omega, by go_num, hide (unhide HD hp)⟩, by simp [intOf]; omega⟩
          · exact absurd e0' (unhide hd i0 (by omega))
      · clear xn
        obtain ⟨i0, hi0, e0⟩ := unhide XO rfl (by omega)
        have hc : TC w5 g 0 l := by
          rcases unhide H5 with ⟨hl0, _⟩ | ⟨b, o, cap, e, hc⟩
          · subst hl0; simp at hi0
          · simp only [Value.slice.injEq, Option.some.injEq, Addr.mk.injEq] at e
            obtain ⟨⟨rfl, rfl, _⟩, _⟩ := e
            exact hc
        have HC := hide hc
        have e0' : (l.getD i0 T0).2 = y - x := by
          have hg : l.getD i0 T0 = l[i0] := by simp [List.getD, hi0]
          rw [hg]; omega
        clear hc e0 XO H5
        go_wp2_with fail
        go_loop [15] (fun i => ∃ k : Nat, k ≤ l.length ∧ i = .int .i64 k ∧ Hid (∀ j, j < k → (l.getD j T0).2 ≠ y - x)) (fun i => l.length - (intOf i).toNat)
        case atStart => exact ⟨0, Nat.zero_le _, rfl, hide (fun j hj => by omega)⟩
        case round =>
          obtain ⟨k, hk, rfl, hd⟩ := hrel
          by_cases hlt : k < l.length
          · obtain ⟨c0, c1⟩ := (unhide HC).2 k hlt
            simp only [Nat.zero_add] at c0 c1
            have HD : Hid ((l.getD k T0).2 ≠ y - x → ∀ j, j < k + 1 → (l.getD j T0).2 ≠ y - x) := hide (fun h j hj => by
              by_cases e : j = k
              · rw [e]; exact h
              · exact unhide hd j (by omega))
            clear hd e0'
            generalize (l.getD k T0).1 = s at *
            generalize (l.getD k T0).2 = p at *
            by_cases hp : p = y - x
            · subst hp
              go_wp2
              go_ret
              exact ⟨rfl, unhide B5⟩
            · go_wp2
              exact ⟨⟨k + 1, by omega, by go_num, hide (unhide HD hp)⟩, by simp [intOf]; omega⟩
          · exact absurd e0' (unhide hd i0 (by omega))
    · have xz' := xz rfl
      clear xz
      by_cases hn1 : n < 0
      · obtain rfl := xn (by omega)
        clear xn XO
        go_wp2_with fail
        go_ret
        exact ⟨rfl, unhide B5⟩
      by_cases hn0 : n ≤ 0
      · obtain rfl := xn hn0
        clear xn
        obtain ⟨i0, hi0, e0⟩ := unhide XO rfl (by omega)
        have hc : TC w5 g 0 l := by
          rcases unhide H5 with ⟨hl0, _⟩ | ⟨b, o, cap, e, hc⟩
          · subst hl0; simp at hi0
          · simp only [Value.slice.injEq, Option.some.injEq, Addr.mk.injEq] at e
            obtain ⟨⟨rfl, rfl, _⟩, _⟩ := e
            exact hc
        have HC := hide hc
        have e0' : (l.getD i0 T0).2 = y := by
          have hg : l.getD i0 T0 = l[i0] := by simp [List.getD, hi0]
          rw [hg]; omega
        clear hc e0 XO H5
        go_wp2_with fail
        go_loop [15] (fun i => ∃ k : Nat, k ≤ l.length ∧ i = .int .i64 k ∧ Hid (∀ j, j < k → (l.getD j T0).2 ≠ y)) (fun i => l.length - (intOf i).toNat)
        case atStart => exact ⟨0, Nat.zero_le _, rfl, hide (fun j hj => by omega)⟩
        case round =>
          obtain ⟨k, hk, rfl, hd⟩ := hrel
          by_cases hlt : k < l.length
          · obtain ⟨c0, c1⟩ := (unhide HC).2 k hlt
            simp only [Nat.zero_add] at c0 c1
            have HD : Hid ((l.getD k T0).2 ≠ y → ∀ j, j < k + 1 → (l.getD j T0).2 ≠ y) := hide (fun h j hj => by
              by_cases e : j = k
              · rw [e]; exact h
              · exact unhide hd j (by omega))
            clear hd e0'
            generalize (l.getD k T0).1 = s at *
            generalize (l.getD k T0).2 = p at *
            by_cases hp : p = y
            · subst hp
              go_wp2
              go_ret
              exact ⟨rfl, unhide B5⟩
            · go_wp2
              exact ⟨⟨k + 1, by omega, by go_num, hide (unhide HD hp)⟩, by simp [intOf]; omega⟩
          · exact absurd e0' (unhide hd i0 (by omega))
      · clear xn
        obtain ⟨i0, hi0, e0⟩ := unhide XO rfl (by omega)
        have hc : TC w5 g 0 l := by
          rcases unhide H5 with ⟨hl0, _⟩ | ⟨b, o, cap, e, hc⟩
          · subst hl0; simp at hi0
          · simp only [Value.slice.injEq, Option.some.injEq, Addr.mk.injEq] at e
            obtain ⟨⟨rfl, rfl, _⟩, _⟩ := e
            exact hc
        have HC := hide hc
        have e0' : (l.getD i0 T0).2 = y - x := by
          have hg : l.getD i0 T0 = l[i0] := by simp [List.getD, hi0]
          rw [hg]; omega
        clear hc e0 XO H5
        go_wp2_with fail
        go_loop [15] (fun i => ∃ k : Nat, k ≤ l.length ∧ i = .int .i64 k ∧ Hid (∀ j, j < k → (l.getD j T0).2 ≠ y - x)) (fun i => l.length - (intOf i).toNat)
        case atStart => exact ⟨0, Nat.zero_le _, rfl, hide (fun j hj => by omega)⟩
        case round =>
          obtain ⟨k, hk, rfl, hd⟩ := hrel
          by_cases hlt : k < l.length
          · obtain ⟨c0, c1⟩ := (unhide HC).2 k hlt
            simp only [Nat.zero_add] at c0 c1
            have HD : Hid ((l.getD k T0).2 ≠ y - x → ∀ j, j < k + 1 → (l.getD j T0).2 ≠ y - x) := hide (fun h j hj => by
              by_cases e : j = k
              · rw [e]; exact h
              · exact unhide hd j (by omega))
            clear hd e0'
            generalize (l.getD k T0).1 = s at *
            generalize (l.getD k T0).2 = p at *
            by_cases hp : p = y - x
            · subst hp
              go_wp2
              go_ret
              exact ⟨rfl, unhide B5⟩
            · go_wp2
              exact ⟨⟨k + 1, by omega, by go_num, hide (unhide HD hp)⟩, by simp [intOf]; omega⟩
          · exact absurd e0' (unhide hd i0 (by omega))
end Go.Proofs.Ytjjfmpinekiheaa.Law
