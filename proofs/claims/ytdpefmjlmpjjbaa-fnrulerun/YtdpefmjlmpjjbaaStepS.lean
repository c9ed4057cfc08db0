/-
  spec.RuleStep.
-/
import Derived.Test.YtdpefmjlmpjjbaaRight
import Derived.Test.YtdpefmjlmpjjbaaCoin
import Derived.Test.YtdpefmjlmpjjbaaStepM
namespace Go.Proofs.Ytdpefmjlmpjjbaa.Tiers
set_option linter.unusedVariables false
open Go.RowKit Coin

/-- what RuleStep answers -/
def stepB (l : List T) (q : Int) : Bool := rightB l && okB q && (stepF l q 0).isSome
def stepV (l : List T) (q : Int) : Int := if rightB l = true ∧ okB q = true then (stepF l q 0).getD 0 else 0
theorem stepB_bad {l : List T} {q : Int} (h : rightB l = false ∨ okB q = false) : stepB l q = false ∧ stepV l q = 0 := by
  unfold stepB stepV
  rcases h with h | h <;> simp [h]
theorem stepB_none {l : List T} {q : Int} (h : stepF l q 0 = none) : stepB l q = false ∧ stepV l q = 0 := by
  unfold stepB stepV
  simp [h]
theorem stepB_some {l : List T} {q x : Int} (h1 : rightB l = true) (h2 : okB q = true) (h : stepF l q 0 = some x) : stepB l q = true ∧ stepV l q = x := by
  unfold stepB stepV
  simp [h, h1, h2]

theorem okB_bd {n : Int} (h : okB n = true) : -1000000000000000 ≤ n ∧ n ≤ 1000000000000000 := okB_iff.1 h
theorem addB_parts {a b : Int} (h : addB a b = true) : okB a = true ∧ okB b = true ∧ okB (a + b) = true := by
  unfold addB at h; simp only [Bool.and_eq_true] at h; exact ⟨h.1.1, h.1.2, h.2⟩

set_option maxHeartbeats 2000000 in
set_option maxRecDepth 20000 in
theorem stepS (v : Value) (l : List T) (q : Int) (w : World) (h : TR w v l) (hl : l.length ≤ 1048576) :
    Calls Try.prog 27 #[v, .int .i64 q] w fun e w' => e = .returned (.tuple #[.int .i64 (stepV l q), .bool (stepB l q)]) ∧ Below w.heap.size w w' := by
  have H := hide h
  cases hr : rightB l
  · obtain ⟨e1, e2⟩ := stepB_bad (q := q) (.inl hr)
    rw [e1, e2]
    clear e1 e2 h
    go_enter Try.func27, Try.ntmps27
    go_wp2_with (fail)
    refine (rightS v l w (unhide H) hl).mono ?_
    rintro e w1 ⟨rfl, hb⟩
    have HB := hide hb; clear hb
    go_wp2_with (fail)
    go_ret2
    exact ⟨rfl, unhide HB⟩
  cases hq : okB q
  · obtain ⟨e1, e2⟩ := stepB_bad (l := l) (.inr hq)
    rw [e1, e2]
    clear e1 e2 h
    go_enter Try.func27, Try.ntmps27
    go_wp2_with (fail)
    refine (rightS v l w (unhide H) hl).mono ?_
    rintro e w1 ⟨rfl, hb⟩
    have HB := hide hb; clear hb
    go_wp2_with (fail)
    refine (okS q _).mono ?_
    rintro e w2 ⟨rfl, rfl⟩
    go_wp2_with (fail)
    go_ret2
    exact ⟨rfl, unhide HB⟩
  obtain ⟨z1, z2⟩ := rightB_len hr
  rcases h with ⟨rfl, a, c, rfl⟩ | ⟨b, o, cap, rfl, hc⟩
  · simp at z1
  have HC := hide hc
  have HAT : Hid (∀ k, k < l.length → okT l.length k (l.getD k T0) = true) := hide (fun k hk => rightB_at hr hk)
  obtain ⟨qb1, qb2⟩ := okB_bd hq
  have HV : Hid (∀ x, stepF l q 0 = some x → stepB l q = true ∧ stepV l q = x) := hide (fun x hx => stepB_some hr hq hx)
  have HN : Hid (stepF l q 0 = none → stepB l q = false ∧ stepV l q = 0) := hide stepB_none
  generalize stepB l q = rb at *
  generalize stepV l q = rv at *
  have HS : Hid (stepF l q 0 = stepF (l.drop 0) q 0) := hide rfl
  generalize stepF l q 0 = F at *
  clear hc
  go_enter Try.func27, Try.ntmps27
  go_wp2_with (fail)
  refine (rightS _ l w (unhide H) hl).mono ?_
  rintro e w1 ⟨rfl, hb⟩
  have HB := hide hb
  have HC1 := hide ((unhide HC).kept hb)
  clear hb HC
  go_wp2_with (fail)
  refine (okS q _).mono ?_
  rintro e w2 ⟨rfl, rfl⟩
  go_wp2_with (fail)
  go_loop [6, 7, 1] (fun t i p => ∃ (k : Nat) (out q' : Int), k ≤ l.length ∧ i = .int .i64 k ∧ t = .int .i64 out ∧ p = .int .i64 q' ∧ -1000000000000000 ≤ out ∧ out ≤ 1000000000000000 ∧ -1000000000000000 ≤ q' ∧ q' ≤ 1000000000000000 ∧ Hid (F = stepF (l.drop k) q' out)) (fun _ i _ => l.length - (intOf i).toNat)
  case atStart => exact ⟨0, 0, q, Nat.zero_le _, rfl, rfl, rfl, by omega, by omega, qb1, qb2, HS⟩
  case round =>
    obtain ⟨k, out, q', hk, rfl, rfl, rfl, o1, o2, q1, q2, hF⟩ := hrel
    clear hr hq qb1 qb2 HS
    by_cases hlt : k < l.length
    · by_cases hpos : 0 < q'
      · obtain ⟨c0, c1⟩ := (unhide HC1).2 k hlt
        obtain ⟨_, t1, t2, t3, t4⟩ := okT_of (unhide HAT k hlt)
        have i1 : (0 : Int) ≤ (k : Int) := by omega
        have i2 : (k : Int) < (l.length : Int) := by omega
        have HG := hide (fun hf ha => (unhide hF).trans (stepF_go (out := out) hlt hpos hf ha))
        have HO := hide (fun h => (unhide hF).trans (stepF_no (out := out) hlt hpos h))
        have e0 : l.getD k (0, 0) = l.getD k T0 := rfl
        rw [e0] at HG HO
        clear e0 hF
        generalize l.getD k T0 = t at *
        obtain ⟨x, y⟩ := t
        simp only at c0 c1 t1 t2 t3 t4 HG HO
        by_cases hx : 0 < x ∧ x < q'
        · rw [nOf_small hx.1 hx.2] at HG HO
          obtain ⟨hx1, hx2⟩ := hx
          go_wp2_with (fail)
          refine (timesS x y _).mono ?_
          rintro e w2 ⟨rfl, rfl⟩
          cases hf : fitB x y
          · generalize timesV x y = tv at *
            have hF := unhide HO (.inl hf)
            obtain ⟨rfl, rfl⟩ := unhide HN hF
            clear hF HO HG HN HV
            go_wp2_with (fail)
            refine (addS out tv _).mono ?_
            rintro e w3 ⟨rfl, rfl⟩
            generalize addB out tv = bb at *
            generalize addV out tv = bv at *
            go_wp2_with (fail)
            go_ret2
            exact ⟨rfl, unhide HB⟩
          · rw [timesV_yes hf]
            obtain ⟨_, _, p1, p2⟩ := fit_ok hf
            generalize x * y = pr at *
            go_wp2_with (fail)
            refine (addS out pr _).mono ?_
            rintro e w3 ⟨rfl, rfl⟩
            cases ha : addB out pr
            · rw [addV_no ha]
              have hF := unhide HO (.inr ha)
              obtain ⟨rfl, rfl⟩ := unhide HN hF
              clear hF HO HG HN HV
              go_wp2_with (fail)
              go_ret2
              exact ⟨rfl, unhide HB⟩
            · rw [addV_yes ha]
              obtain ⟨s1, s2⟩ := okB_bd (addB_parts ha).2.2
              have hF := hide (unhide HG hf ha)
              clear HO HG HN HV
              go_wp2_with (fail)
              exact ⟨⟨k + 1, out + pr, q' - x, by omega, by go_num, rfl, rfl, s1, s2, by omega, by omega, hF⟩, by simp [intOf]; omega⟩
        · rw [nOf_all hx] at HG HO
          by_cases hx1 : 0 < x
          · have hx2 : ¬ x < q' := fun h => hx ⟨hx1, h⟩
            clear hx
            go_wp2_with (fail)
            refine (timesS q' y _).mono ?_
            rintro e w2 ⟨rfl, rfl⟩
            cases hf : fitB q' y
            · generalize timesV q' y = tv at *
              have hF := unhide HO (.inl hf)
              obtain ⟨rfl, rfl⟩ := unhide HN hF
              clear hF HO HG HN HV
              go_wp2_with (fail)
              refine (addS out tv _).mono ?_
              rintro e w3 ⟨rfl, rfl⟩
              generalize addB out tv = bb at *
              generalize addV out tv = bv at *
              go_wp2_with (fail)
              go_ret2
              exact ⟨rfl, unhide HB⟩
            · rw [timesV_yes hf]
              obtain ⟨_, _, p1, p2⟩ := fit_ok hf
              generalize q' * y = pr at *
              go_wp2_with (fail)
              refine (addS out pr _).mono ?_
              rintro e w3 ⟨rfl, rfl⟩
              cases ha : addB out pr
              · rw [addV_no ha]
                have hF := unhide HO (.inr ha)
                obtain ⟨rfl, rfl⟩ := unhide HN hF
                clear hF HO HG HN HV
                go_wp2_with (fail)
                go_ret2
                exact ⟨rfl, unhide HB⟩
              · rw [addV_yes ha]
                obtain ⟨s1, s2⟩ := okB_bd (addB_parts ha).2.2
                have hF := hide (unhide HG hf ha)
                clear HO HG HN HV
                go_wp2_with (fail)
                exact ⟨⟨k + 1, out + pr, q' - q', by omega, by go_num, rfl, by simp, s1, s2, by omega, by omega, hF⟩, by simp [intOf]; omega⟩
          · clear hx
            go_wp2_with (fail)
            refine (timesS q' y _).mono ?_
            rintro e w2 ⟨rfl, rfl⟩
            cases hf : fitB q' y
            · generalize timesV q' y = tv at *
              have hF := unhide HO (.inl hf)
              obtain ⟨rfl, rfl⟩ := unhide HN hF
              clear hF HO HG HN HV
              go_wp2_with (fail)
              refine (addS out tv _).mono ?_
              rintro e w3 ⟨rfl, rfl⟩
              generalize addB out tv = bb at *
              generalize addV out tv = bv at *
              go_wp2_with (fail)
              go_ret2
              exact ⟨rfl, unhide HB⟩
            · rw [timesV_yes hf]
              obtain ⟨_, _, p1, p2⟩ := fit_ok hf
              generalize q' * y = pr at *
              go_wp2_with (fail)
              refine (addS out pr _).mono ?_
              rintro e w3 ⟨rfl, rfl⟩
              cases ha : addB out pr
              · rw [addV_no ha]
                have hF := unhide HO (.inr ha)
                obtain ⟨rfl, rfl⟩ := unhide HN hF
                clear hF HO HG HN HV
                go_wp2_with (fail)
                go_ret2
                exact ⟨rfl, unhide HB⟩
              · rw [addV_yes ha]
                obtain ⟨s1, s2⟩ := okB_bd (addB_parts ha).2.2
                have hF := hide (unhide HG hf ha)
                clear HO HG HN HV
                go_wp2_with (fail)
                exact ⟨⟨k + 1, out + pr, q' - q', by omega, by go_num, rfl, by simp, s1, s2, by omega, by omega, hF⟩, by simp [intOf]; omega⟩
      · have hF2 := (unhide hF).trans (stepF_end _ (by omega))
        obtain ⟨rfl, rfl⟩ := unhide HV _ hF2
        clear hF2 HN HV hF
        go_wp2_with (fail)
        go_ret2
        exact ⟨rfl, unhide HB⟩
    · have hF2 := (unhide hF).trans (stepF_nil (by omega))
      obtain ⟨rfl, rfl⟩ := unhide HV _ hF2
      clear hF2 HN HV hF
      go_wp2_with (fail)
      go_ret2
      exact ⟨rfl, unhide HB⟩
end Go.Proofs.Ytdpefmjlmpjjbaa.Tiers
