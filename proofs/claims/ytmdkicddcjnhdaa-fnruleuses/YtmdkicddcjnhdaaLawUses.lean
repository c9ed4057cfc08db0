/-
  The law FnRuleUses: the order of meters never matters.
-/
import Derived.Test.YtmdkicddcjnhdaaDrawRR
import Derived.Test.YtmdkicddcjnhdaaRunD
import Derived.Test.YtmdkicddcjnhdaaLawRun
import Derived.Test.YtmdkicddcjnhdaaSrcU
namespace Go.Proofs.Ytmdkicddcjnhdaa.Rule
set_option linter.unusedVariables false
open Go.RowKit
open Uses (U U0 UR UC hide unhide below_trans below_drewN')
open Sums (XU listAppU newU)

theorem rev_take {us : List U} {k : Nat} (hk : k < us.length) : us.reverse.take k ++ [us.getD (us.length - 1 - k) U0] = us.reverse.take (k + 1) := by
  have hk' : k < us.reverse.length := by simpa using hk
  rw [List.take_add_one, List.getElem?_eq_getElem hk']
  simp [List.getD, (by omega : us.length - 1 - k < us.length)]
theorem apart_of {us : List U} (h : ∀ x y, x < us.length → y < x → (us.getD x U0).1 ≠ (us.getD y U0).1) : Apart us := by
  refine List.pairwise_iff_getElem.2 (fun i j hi hj hij => ?_)
  have := h j i hj hij
  simpa [List.getD, hi, hj] using this.symm

theorem ofV_reverse' {us : List U} (h : Apart us) : ∀ m, Uses.ofV m us.reverse = Uses.ofV m us := fun m => ofV_reverse m h

set_option maxHeartbeats 16000000 in
set_option maxRecDepth 100000 in
theorem ruleUses (a0 : Option Addr) (len0 cap0 : Nat) (w : World) (hB : Draw.Bytes w a0 len0 cap0) :
    Calls Try.prog 4 #[.slice a0 len0 cap0] w fun e w' => e = .returned (.bool true) ∧ Below w.heap.size w w' := by
  by_cases hl : 1048576 < len0
  · go_enter Try.func4, Try.ntmps4
    go_wp2
    go_ret
    exact ⟨rfl, Below.refl _ _⟩
  go_enter Try.func4, Try.ntmps4
  go_wp2_with fail
  refine (Draw.drawRun a0 len0 cap0 w hB).mono ?_
  rintro x w1 ⟨v, uv, f, rfl, e, d, lo, hi, us, hE, hhi, hwt, hU, hul, hf, hb1⟩
  obtain ⟨k, n, m, ka, kn, kc, ta, tn, tc, rfl⟩ := Draw.EV.form hE
  obtain ⟨ua, uc, rfl⟩ : ∃ a c, uv = .slice a us.length c := by
    rcases hU with ⟨rfl, a, c, rfl⟩ | ⟨b, o, c, rfl, _⟩
    · exact ⟨_, _, rfl⟩
    · exact ⟨_, _, rfl⟩
  have ba := below_alloc w1 (.cells #[.int .i64 k, .int .i64 n, .string m, .slice ka kn kc, .slice ta tn tc] 26)
  have N1 := hide (new5 w1 (.int .i64 k) (.int .i64 n) (.string m) (.slice ka kn kc) (.slice ta tn tc) 26)
  have zb : w1.heap.size < (w1.alloc (.cells #[.int .i64 k, .int .i64 n, .string m, .slice ka kn kc, .slice ta tn tc] 26)).heap.size := by simp
  have HBX : Hid (∀ W, Below (w1.alloc (.cells #[.int .i64 k, .int .i64 n, .string m, .slice ka kn kc, .slice ta tn tc] 26)).heap.size (w1.alloc (.cells #[.int .i64 k, .int .i64 n, .string m, .slice ka kn kc, .slice ta tn tc] 26)) W → (W.cell? ⟨w1.heap.size, 0, none⟩ = some (.int .i64 k) ∧ W.cell? ⟨w1.heap.size, 1, none⟩ = some (.int .i64 n) ∧ W.cell? ⟨w1.heap.size, 2, none⟩ = some (.string m) ∧ W.cell? ⟨w1.heap.size, 3, none⟩ = some (.slice ka kn kc) ∧ W.cell? ⟨w1.heap.size, 4, none⟩ = some (.slice ta tn tc)) ∧ EV lo hi W d (.agg #[.int .i64 k, .int .i64 n, .string m, .slice ka kn kc, .slice ta tn tc]) e ∧ hi ≤ W.heap.size ∧ UR W (.slice ua us.length uc) us ∧ Below w.heap.size w W) := hide (fun W hW => by
    obtain ⟨n0, n1, n2, n3, n4⟩ := unhide N1
    have hB := below_trans ba hW
    exact ⟨⟨(hW.cell (p := ⟨w1.heap.size, 0, none⟩) zb).trans n0, (hW.cell (p := ⟨w1.heap.size, 1, none⟩) zb).trans n1, (hW.cell (p := ⟨w1.heap.size, 2, none⟩) zb).trans n2, (hW.cell (p := ⟨w1.heap.size, 3, none⟩) zb).trans n3, (hW.cell (p := ⟨w1.heap.size, 4, none⟩) zb).trans n4⟩, hE.kept (same_below hB hhi), Nat.le_trans hhi hB.size, hU.kept hB, below_trans hb1 hB⟩)
  have hcase : us.length = 0 ∨ ∃ b o, ua = some ⟨b, o, none⟩ ∧ ∀ W, Below w1.heap.size w1 W → UC W b o us := by
    rcases hU with ⟨rfl, _⟩ | ⟨b, o, c, hv, hc⟩
    · exact .inl rfl
    · simp only [Value.slice.injEq] at hv
      exact .inr ⟨b, o, hv.1, fun W hW => hc.kept hW⟩
  clear hB hl hE hhi hU hf N1
  rcases hcase with h0 | ⟨b, o, rfl, hc⟩
  · have H0 := hide h0
    clear h0
    have X0 := hide (XU.made (w1.alloc (.cells #[.int .i64 k, .int .i64 n, .string m, .slice ka kn kc, .slice ta tn tc] 26)) (w1.alloc (.cells #[.int .i64 k, .int .i64 n, .string m, .slice ka kn kc, .slice ta tn tc] 26)).heap.size (Nat.le_refl _) 34 rfl)
    have bx := below_alloc (w1.alloc (.cells #[.int .i64 k, .int .i64 n, .string m, .slice ka kn kc, .slice ta tn tc] 26)) (.cells #[] 34)
    have zz : (w1.alloc (.cells #[.int .i64 k, .int .i64 n, .string m, .slice ka kn kc, .slice ta tn tc] 26)).heap.size = w1.heap.size + 1 := by simp
    go_wp2_with fail
    go_loopw [6, 7] (fun to ti wr => ∃ (r g c : Nat), r ≤ us.length ∧ ti = .int .i64 ((r : Int) - 1) ∧ to = .slice (some ⟨g, 0, none⟩) (us.length - r) c ∧ Hid (XU wr (w1.alloc (.cells #[.int .i64 k, .int .i64 n, .string m, .slice ka kn kc, .slice ta tn tc] 26)).heap.size g c (us.reverse.take (us.length - r))) ∧ Hid (∀ x y, r ≤ x → x < us.length → y < x → (us.getD x U0).1 ≠ (us.getD y U0).1) ∧ Hid (Below (w1.alloc (.cells #[.int .i64 k, .int .i64 n, .string m, .slice ka kn kc, .slice ta tn tc] 26)).heap.size (w1.alloc (.cells #[.int .i64 k, .int .i64 n, .string m, .slice ka kn kc, .slice ta tn tc] 26)) wr)) (fun _ ti _ => (intOf ti + 1).toNat)
    case atStart => exact ⟨us.length, (w1.alloc (.cells #[.int .i64 k, .int .i64 n, .string m, .slice ka kn kc, .slice ta tn tc] 26)).heap.size, 0, Nat.le_refl _, rfl, by simp, by rw [Nat.sub_self]; simpa using X0, hide (fun x y h1 h2 => by omega), hide bx⟩
    case round =>
      obtain ⟨r, g, c, hr, rfl, rfl, hX, hA, hb⟩ := hrel
      clear X0
      by_cases hr0 : r = 0
      · subst hr0
        rw [Nat.sub_zero] at hX ⊢
        have hrl : us.reverse.length = us.length := List.length_reverse
        rw [← hrl, List.take_length] at hX
        have hT := hide (show UR wr (.slice (some ⟨g, 0, none⟩) us.length c) us.reverse from (by have := (unhide hX).ur; rwa [hrl] at this))
        have hrev := ofV_reverse' (apart_of (fun x y h1 h2 => unhide hA x y (Nat.zero_le _) h1 h2))
        obtain ⟨⟨c0, c1, c2, c3, c4⟩, hEV, hHI, hUR, hBW⟩ := unhide HBX wr (unhide hb)
        obtain ⟨_, _, _, ⟨sv, sc, st, _, hRun, _⟩, _⟩ := runS us.reverse (by rw [hrl]; omega) d lo hi _ _ e f wr hEV hHI (by omega) (unhide hT) []
        have HR := hide hRun
        have HR1 := hide (RunOf.congr hrev hRun)
        have HC1 := hide (runI us (by omega) d lo hi _ _ e f wr hEV hHI (by omega) hUR sv sc st (unhide HR1))
        have x1 : (sv == sv) = true := by simp
        have x2 : (sc == sc) = true := by simp
        have x3 : (st == st) = true := by simp
        clear hA hX hEV hHI hUR hRun hrev
        go_wp2_with fail
        refine (unhide HC1).mono ?_
        rintro x w3 ⟨rfl, hb3⟩
        have B3 := hide (below_trans (unhide hb) hb3)
        have T3 := hide ((unhide hT).kept hb3)
        obtain ⟨⟨c0, c1, c2, c3, c4⟩, hEV, hHI, hUR, hBW3⟩ := unhide HBX w3 (unhide B3)
        have HC2 := hide (runI us.reverse (by rw [hrl]; omega) d lo hi _ _ e f w3 hEV hHI (by omega) (unhide T3) sv sc st (unhide HR))
        clear hb3 hEV hHI hUR HC1
        go_wp2_with fail
        refine (unhide HC2).mono ?_
        rintro x w4 ⟨rfl, hb4⟩
        have B4 := hide (below_trans (unhide B3) hb4)
        have T4 := hide ((unhide T3).kept hb4)
        obtain ⟨⟨c0, c1, c2, c3, c4⟩, hEV, hHI, hUR, hBW4⟩ := unhide HBX w4 (unhide B4)
        have HC3 := hide (runS us.reverse (by rw [hrl]; omega) d lo hi _ _ e f w4 hEV hHI (by omega) (unhide T4))
        clear hb4 hEV hHI hUR HC2
        go_wp2_with fail
        refine (unhide HC3).mono ?_
        rintro x w5 ⟨v', c', t', rfl, hRun', hb5⟩
        obtain ⟨rfl, rfl, rfl⟩ := RunOf.det (unhide HR) hRun'
        have B5 := hide (unhide HBX w5 (below_trans (unhide B4) hb5)).2.2.2.2
        clear hb5 hRun' HC3
        go_wp2
        go_ret
        exact ⟨rfl, unhide B5⟩
      · exact absurd (unhide H0) (by omega)
  · have HC := hide hc
    clear hc
    have X0 := hide (XU.made (w1.alloc (.cells #[.int .i64 k, .int .i64 n, .string m, .slice ka kn kc, .slice ta tn tc] 26)) (w1.alloc (.cells #[.int .i64 k, .int .i64 n, .string m, .slice ka kn kc, .slice ta tn tc] 26)).heap.size (Nat.le_refl _) 34 rfl)
    have bx := below_alloc (w1.alloc (.cells #[.int .i64 k, .int .i64 n, .string m, .slice ka kn kc, .slice ta tn tc] 26)) (.cells #[] 34)
    have zz : (w1.alloc (.cells #[.int .i64 k, .int .i64 n, .string m, .slice ka kn kc, .slice ta tn tc] 26)).heap.size = w1.heap.size + 1 := by simp
    go_wp2_with fail
    go_loopw [6, 7] (fun to ti wr => ∃ (r g c : Nat), r ≤ us.length ∧ ti = .int .i64 ((r : Int) - 1) ∧ to = .slice (some ⟨g, 0, none⟩) (us.length - r) c ∧ Hid (XU wr (w1.alloc (.cells #[.int .i64 k, .int .i64 n, .string m, .slice ka kn kc, .slice ta tn tc] 26)).heap.size g c (us.reverse.take (us.length - r))) ∧ Hid (∀ x y, r ≤ x → x < us.length → y < x → (us.getD x U0).1 ≠ (us.getD y U0).1) ∧ Hid (Below (w1.alloc (.cells #[.int .i64 k, .int .i64 n, .string m, .slice ka kn kc, .slice ta tn tc] 26)).heap.size (w1.alloc (.cells #[.int .i64 k, .int .i64 n, .string m, .slice ka kn kc, .slice ta tn tc] 26)) wr)) (fun _ ti _ => (intOf ti + 1).toNat)
    case atStart => exact ⟨us.length, (w1.alloc (.cells #[.int .i64 k, .int .i64 n, .string m, .slice ka kn kc, .slice ta tn tc] 26)).heap.size, 0, Nat.le_refl _, rfl, by simp, by rw [Nat.sub_self]; simpa using X0, hide (fun x y h1 h2 => by omega), hide bx⟩
    case round =>
      obtain ⟨r, g, c, hr, rfl, rfl, hX, hA, hb⟩ := hrel
      clear X0
      by_cases hr0 : r = 0
      · subst hr0
        rw [Nat.sub_zero] at hX ⊢
        have hrl : us.reverse.length = us.length := List.length_reverse
        rw [← hrl, List.take_length] at hX
        have hT := hide (show UR wr (.slice (some ⟨g, 0, none⟩) us.length c) us.reverse from (by have := (unhide hX).ur; rwa [hrl] at this))
        have hrev := ofV_reverse' (apart_of (fun x y h1 h2 => unhide hA x y (Nat.zero_le _) h1 h2))
        obtain ⟨⟨c0, c1, c2, c3, c4⟩, hEV, hHI, hUR, hBW⟩ := unhide HBX wr (unhide hb)
        obtain ⟨_, _, _, ⟨sv, sc, st, _, hRun, _⟩, _⟩ := runS us.reverse (by rw [hrl]; omega) d lo hi _ _ e f wr hEV hHI (by omega) (unhide hT) []
        have HR := hide hRun
        have HR1 := hide (RunOf.congr hrev hRun)
        have HC1 := hide (runI us (by omega) d lo hi _ _ e f wr hEV hHI (by omega) hUR sv sc st (unhide HR1))
        have x1 : (sv == sv) = true := by simp
        have x2 : (sc == sc) = true := by simp
        have x3 : (st == st) = true := by simp
        clear hA hX hEV hHI hUR hRun hrev
        go_wp2_with fail
        refine (unhide HC1).mono ?_
        rintro x w3 ⟨rfl, hb3⟩
        have B3 := hide (below_trans (unhide hb) hb3)
        have T3 := hide ((unhide hT).kept hb3)
        obtain ⟨⟨c0, c1, c2, c3, c4⟩, hEV, hHI, hUR, hBW3⟩ := unhide HBX w3 (unhide B3)
        have HC2 := hide (runI us.reverse (by rw [hrl]; omega) d lo hi _ _ e f w3 hEV hHI (by omega) (unhide T3) sv sc st (unhide HR))
        clear hb3 hEV hHI hUR HC1
        go_wp2_with fail
        refine (unhide HC2).mono ?_
        rintro x w4 ⟨rfl, hb4⟩
        have B4 := hide (below_trans (unhide B3) hb4)
        have T4 := hide ((unhide T3).kept hb4)
        obtain ⟨⟨c0, c1, c2, c3, c4⟩, hEV, hHI, hUR, hBW4⟩ := unhide HBX w4 (unhide B4)
        have HC3 := hide (runS us.reverse (by rw [hrl]; omega) d lo hi _ _ e f w4 hEV hHI (by omega) (unhide T4))
        clear hb4 hEV hHI hUR HC2
        go_wp2_with fail
        refine (unhide HC3).mono ?_
        rintro x w5 ⟨v', c', t', rfl, hRun', hb5⟩
        obtain ⟨rfl, rfl, rfl⟩ := RunOf.det (unhide HR) hRun'
        have B5 := hide (unhide HBX w5 (below_trans (unhide B4) hb5)).2.2.2.2
        clear hb5 hRun' HC3
        go_wp2
        go_ret
        exact ⟨rfl, unhide B5⟩
      · obtain ⟨i, rfl⟩ : ∃ i, r = i + 1 := ⟨r - 1, by omega⟩
        have ei : (((i + 1 : Nat)) : Int) - 1 = (i : Int) := by omega
        rw [ei]
        have hiN : i < us.length := by omega
        have i0 : (0 : Int) ≤ (i : Int) := by omega
        have i2 : (i : Int) < (us.length : Int) := by omega
        clear ei hr0
        go_wp2
        go_loopw [8] (fun t8 wr2 => ∃ y : Nat, y ≤ i ∧ t8 = .int .i64 y ∧ Hid (∀ z, z < y → (us.getD i U0).1 ≠ (us.getD z U0).1) ∧ Hid (XU wr2 (w1.alloc (.cells #[.int .i64 k, .int .i64 n, .string m, .slice ka kn kc, .slice ta tn tc] 26)).heap.size g c (us.reverse.take (us.length - (i + 1)))) ∧ Hid (Below (w1.alloc (.cells #[.int .i64 k, .int .i64 n, .string m, .slice ka kn kc, .slice ta tn tc] 26)).heap.size (w1.alloc (.cells #[.int .i64 k, .int .i64 n, .string m, .slice ka kn kc, .slice ta tn tc] 26)) wr2)) (fun t8 _ => i - (intOf t8).toNat)
        case atStart => exact ⟨0, Nat.zero_le _, rfl, hide (fun z h => by omega), hX, hb⟩
        case round =>
          obtain ⟨y, hy, rfl, hn, hX2, hb2⟩ := hrel
          clear hX hb
          have HCC := unhide HC _ (below_trans (below_alloc w1 _) (unhide hb2))
          obtain ⟨s0, s1⟩ := HCC.2 i hiN
          by_cases hyi : y < i
          · obtain ⟨t0, t1⟩ := HCC.2 y (by omega)
            have j1 : (0 : Int) ≤ (y : Int) := by omega
            have j2 : (y : Int) < (us.length : Int) := by omega
            have j3 : (y : Int) < (i : Int) := by omega
            clear HCC
            by_cases heq : (us.getD i U0).1 = (us.getD y U0).1
            · rw [heq] at s0
              generalize (us.getD y U0).1 = sy at *
              have ss : (sy.toList == sy.toList) = true := by simp
              have BW := hide (unhide HBX _ (unhide hb2)).2.2.2.2
              clear heq hn
              go_wp2
              go_quiet (fail)
              go_wp2
              go_ret
              exact ⟨rfl, below_drewN' (unhide BW) _⟩
            · have hn2 : Hid (∀ z, z < y + 1 → (us.getD i U0).1 ≠ (us.getD z U0).1) := hide (fun z hz => by
                by_cases e : z = y
                · subst e; exact heq
                · exact unhide hn z (by omega))
              have ss : ((us.getD i U0).1.toList == (us.getD y U0).1.toList) = false := by
                rw [beq_eq_false_iff_ne]; intro e; exact heq (Uses.ext_toList e)
              clear heq hn
              generalize (us.getD y U0).1 = sy at *
              generalize (us.getD i U0).1 = si at *
              go_wp2
              go_quiet (fail)
              go_wp2
              exact ⟨⟨y + 1, by omega, by go_num, hn2, hide ((unhide hX2).kept (Draw.grown_of_below (below_drewN' (Below.refl _ _) _) none) (by simp)), hide (below_drewN' (unhide hb2) _)⟩, by simp [intOf]; omega⟩
          · obtain rfl : y = i := by omega
            clear HCC
            have hA2 : Hid (∀ x z, y ≤ x → x < us.length → z < x → (us.getD x U0).1 ≠ (us.getD z U0).1) := hide (fun x z h1 h2 h3 => by
              by_cases e : x = y
              · subst e; exact unhide hn z h3
              · exact unhide hA x z (by omega) h2 h3)
            have HRT := hide (rev_take (k := us.length - (y + 1)) (us := us) (by omega))
            rw [show us.length - 1 - (us.length - (y + 1)) = y from by omega, show us.length - (y + 1) + 1 = us.length - y from by omega] at HRT
            have hlen : (us.reverse.take (us.length - (y + 1))).length = us.length - (y + 1) := by rw [List.length_take, List.length_reverse]; omega
            have HLEN := hide hlen
            clear hA hn hlen
            generalize us.reverse.take (us.length - (y + 1)) = L at *
            generalize us.getD y U0 = u at *
            obtain ⟨s, q⟩ := u
            simp only at s0 s1
            have zb2 := (unhide hb2).size
            go_wp2_with (first | (at_builtin; refine listAppU _ rfl _ _ rfl (w1.alloc (.cells #[.int .i64 k, .int .i64 n, .string m, .slice ka kn kc, .slice ta tn tc] 26)).heap.size g c (us.length - (y + 1)) L [(s, q)] _ (unhide HLEN) rfl ((unhide hX2).kept (World.grownBy_alloc _ _ none) (by simp)) rfl (newU _ s q) (by rw [unhide HLEN]; show _ + 1 ≤ _; omega) (Nat.le_trans zb2 (by simp)) ?_; intro g6 c6 w6 hx6 hg6 hat6 hlt6; have X6 := hide hx6; have B6 := hide (((unhide hb2).alloc zb2 _).grown hg6 (Nat.le_trans zb2 (by simp)) (fun j hj => by cases hj; exact (unhide hX2).own.1)); clear hx6 hg6 hat6 hlt6) | fail)
            rw [unhide HRT] at X6
            exact ⟨⟨y, g6, c6, by omega, rfl, by congr 1; omega, X6, hA2, B6⟩, by simp [intOf]⟩
end Go.Proofs.Ytmdkicddcjnhdaa.Rule
