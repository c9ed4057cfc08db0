/-
  Texts of this proof laid together, in build order; each says of itself what it holds.
-/
import Derived.Test.YtnchgeiinkaefaaGreatDoorZal
import Derived.Test.YtnchgeiinkaefaaGreatDoorZaw
import Derived.Test.YtnchgeiinkaefaaGreatDoorZam
import Derived.Deep.AppendLies
import Derived.Deep.AppendSrc
import Derived.Deep.RegionHeldLaw
import Derived.OwnWalk
import Derived.Test.YtnchgeiinkaefaaGreatDoorZax
import Derived.Deep.RegionLaw
section
/-
  Tariffs that are right: spec.l4Line, spec.l4Tariff.
-/
namespace Go.Proofs.YtnchgeiinkaefaaGreatDoor.Bill
set_option linter.unusedVariables false
open Go.RowKit RegIn Evs
open Rule (ReadOut readS IsRule)
open Kinds (nameB nameS)

set_option maxRecDepth 20000 in
set_option maxHeartbeats 1000000 in
/-- spec.l4Line -/
theorem lineS (s m : ByteArray) (q : Int) (W : World) (h1 : s.size ≤ maxLen) (h2 : m.size ≤ maxLen) : Calls Tryz.prog 33 #[.agg #[.string s, .string m, .int .i64 q]] W fun x w' => x = .returned (.bool (lineB (s, m, q))) ∧ Below W.heap.size W w' := by
  generalize hr : lineB (s, m, q) = r
  have HR : Hid ((nameB s && decide (0 ≤ q ∧ q ≤ 5000) && ruleB m) = r) := hide hr
  clear hr
  go_enter Tryz.func33, Tryz.ntmps33
  go_wp2_with (fail)
  refine (readS m _ h2).mono ?_
  rintro x w1 ⟨v, ok, rfl, hO, hb1⟩
  have hok := rule_outS hO
  rw [← hok] at HR
  clear hok
  obtain ⟨e1, e2, e3, a4, n4, k4, a5, n5, k5, hv⟩ : ∃ e1 e2 e3 a4 n4 k4 a5 n5 k5, v = .agg #[.int .i64 e1, .int .i64 e2, .string e3, .slice a4 n4 k4, .slice a5 n5 k5] := by
    cases ok with
    | true =>
      obtain ⟨e, d, _, hE⟩ := hO.1 rfl
      obtain ⟨ka, kc, ta, tc, rfl⟩ := hE.form
      exact ⟨_, _, _, _, _, _, _, _, _, rfl⟩
    | false => exact ⟨_, _, _, _, _, _, _, _, _, (hO.2 rfl).1⟩
  subst hv
  obtain ⟨q1, hB, hz1⟩ := Boxes.box1 hb1
  have hbw := Rule.below_alloc w1 (.cells #[.int .i64 e1, .int .i64 e2, .string e3, .slice a4 n4 k4, .slice a5 n5 k5] 77)
  have q2 := q1.below hbw (by omega)
  obtain ⟨c0, _⟩ := q2 0 _ rfl
  have Q2 := hide q2
  have HB := hide (below_trans hB hbw)
  have HZ : Hid ((w1.alloc (.cells #[.int .i64 e1, .int .i64 e2, .string e3, .slice a4 n4 k4, .slice a5 n5 k5] 77)).heap.size = w1.heap.size + 1) := hide (by simp)
  clear hO hb1 hB q1 q2 hbw
  go_wp2_with (fail)
  clear c0
  generalize w1.alloc (.cells #[.int .i64 e1, .int .i64 e2, .string e3, .slice a4 n4 k4, .slice a5 n5 k5] 77) = W1 at *
  have hzz := unhide HZ
  refine (nameS s _ h1).mono ?_
  rintro x w2 ⟨rfl, hb2⟩
  have q3 := (unhide Q2).below hb2 (by omega)
  obtain ⟨d2, _⟩ := q3 2 _ rfl
  have HB2 := hide (below_trans (unhide HB) hb2)
  clear hb2 q3
  cases hn : nameB s
  · have hr : r = false := by rw [← unhide HR, hn]; rfl
    subst hr
    go_wp2_with (fail)
    go_ret
    exact ⟨rfl, unhide HB2⟩
  · cases ok
    · have hr : r = false := by rw [← unhide HR]; simp
      subst hr
      go_wp2_with (fail)
      go_ret
      exact ⟨rfl, unhide HB2⟩
    · by_cases b1 : 0 ≤ q
      · by_cases b2 : q ≤ 5000
        · have hr : r = true := by rw [← unhide HR, hn, decide_eq_true ⟨b1, b2⟩]; rfl
          have b2' : decide (q ≤ 5000) = true := decide_eq_true b2
          subst hr
          go_wp2_with (fail)
          go_ret
          exact ⟨rfl, unhide HB2⟩
        · have hr : r = false := by rw [← unhide HR, decide_eq_false (fun h => b2 h.2)]; simp
          have b2' : decide (q ≤ 5000) = false := decide_eq_false b2
          subst hr
          go_wp2_with (fail)
          go_ret
          exact ⟨rfl, unhide HB2⟩
      · have hr : r = false := by rw [← unhide HR, decide_eq_false (fun h => b1 h.1)]; simp
        have b1' : decide (0 ≤ q) = false := decide_eq_false b1
        subst hr
        go_wp2_with (fail)
        go_ret
        exact ⟨rfl, unhide HB2⟩

set_option maxHeartbeats 2000000 in
/-- spec.l4Tariff -/
theorem tarS (v : Value) (l : List E) (w : World) (h : ER w v l) (hl : l.length ≤ 1048576) (hs : ∀ u ∈ l, u.1.size ≤ maxLen ∧ u.2.1.size ≤ maxLen) :
    Calls Tryz.prog 19 #[v] w fun e w' => e = .returned (.bool (okL l)) ∧ Below w.heap.size w w' := by
  by_cases h6 : 6 < l.length
  · rw [okL_long h6]
    obtain ⟨a, c, rfl⟩ := h.slice
    have y : (6 : Int) < l.length := by omega
    clear h
    go_enter Tryz.func19, Tryz.ntmps19
    go_wp2
    go_ret
    exact ⟨rfl, Below.refl _ _⟩
  have y : (l.length : Int) ≤ 6 := by omega
  rcases h with ⟨rfl, a, c, rfl⟩ | ⟨b, o, cap, rfl, hc⟩
  · go_enter Tryz.func19, Tryz.ntmps19
    go_wp2
    refine wp_loop_rounds 1 ?_
    rw [rounds_succ]
    go_wp2
    go_ret
    exact ⟨rfl, Below.refl _ _⟩
  · have HC := hide hc
    have hbs := hc.1
    clear hc
    generalize hr : okL l = r
    have HR := hide hr; clear hr
    go_enter Tryz.func19, Tryz.ntmps19
    go_wp2
    go_loopw [3] (fun i wr => ∃ k : Nat, k ≤ l.length ∧ i = .int .i64 k ∧ Hid (∀ j, j < k → badL l j = false) ∧ Hid (Below w.heap.size w wr)) (fun i _ => l.length - (intOf i).toNat)
    case atStart => exact ⟨0, Nat.zero_le _, rfl, hide (fun j hj => by omega), hide (Below.refl _ _)⟩
    case round =>
      obtain ⟨k, hk, rfl, hd, hb⟩ := hrel
      by_cases hlt : k < l.length
      · obtain ⟨c0, c1, c2⟩ := ((unhide HC).kept (unhide hb)).2 k hlt
        obtain ⟨hsz, hmz⟩ : (l.getD k E0).1.size ≤ maxLen ∧ (l.getD k E0).2.1.size ≤ maxLen := hs _ (by simp [List.getD, hlt])
        have i1 : (0 : Int) ≤ (k : Int) := by omega
        have i2 : (k : Int) < (l.length : Int) := by omega
        have z1 : b < wr.heap.size := Nat.lt_of_lt_of_le hbs (unhide hb).size
        have HBA : Hid (badL l k = (!lineB (l.getD k E0) || (decide (0 < k) && !ltS (l.getD (k - 1) E0).1 (l.getD k E0).1))) := hide rfl
        have k1 : k - 1 < l.length := by omega
        obtain ⟨p0, _, _⟩ := ((unhide HC).kept (unhide hb)).2 (k - 1) k1
        generalize hx : l.getD k E0 = x at *
        generalize hp : (l.getD (k - 1) E0).1 = t at *
        clear hx hp
        obtain ⟨s, m, q⟩ := x
        simp only at c0 c1 c2 hsz hmz
        have HCA : Hid (∀ W : World, Calls Tryz.prog 33 #[.agg #[.string s, .string m, .int .i64 q]] W fun x w' => x = .returned (.bool (lineB (s, m, q))) ∧ Below W.heap.size W w') := hide (fun W => lineS s m q W hsz hmz)
        generalize hR : lineB (s, m, q) = rt at *
        clear hR
        have HK : Hid (∀ w2 w3 : World, (w2.cell? ⟨b, o + k * 3, none⟩ = some (.string s) ∧ w2.cell? ⟨b, o + k * 3 + 1, none⟩ = some (.string m) ∧ w2.cell? ⟨b, o + k * 3 + 2, none⟩ = some (.int .i64 q) ∧ w2.cell? ⟨b, o + (k - 1) * 3, none⟩ = some (.string t) ∧ b < w2.heap.size ∧ b < w2.heap.size ∧ Below w.heap.size w w2) → Below w2.heap.size w2 w3 → (w3.cell? ⟨b, o + k * 3, none⟩ = some (.string s) ∧ w3.cell? ⟨b, o + k * 3 + 1, none⟩ = some (.string m) ∧ w3.cell? ⟨b, o + k * 3 + 2, none⟩ = some (.int .i64 q) ∧ w3.cell? ⟨b, o + (k - 1) * 3, none⟩ = some (.string t) ∧ b < w3.heap.size ∧ b < w3.heap.size ∧ Below w.heap.size w w3)) := hide (fun w2 w3 ⟨a1, a2, a3, a4, a5, a6, a7⟩ hb => ⟨(hb.cell (p := ⟨b, o + k * 3, none⟩) a6).trans a1, (hb.cell (p := ⟨b, o + k * 3 + 1, none⟩) a6).trans a2, (hb.cell (p := ⟨b, o + k * 3 + 2, none⟩) a6).trans a3, (hb.cell (p := ⟨b, o + (k - 1) * 3, none⟩) a6).trans a4, Nat.lt_of_lt_of_le a5 hb.size, Nat.lt_of_lt_of_le a6 hb.size, below_trans a7 hb⟩)
        generalize hS : (fun w2 : World => w2.cell? ⟨b, o + k * 3, none⟩ = some (.string s) ∧ w2.cell? ⟨b, o + k * 3 + 1, none⟩ = some (.string m) ∧ w2.cell? ⟨b, o + k * 3 + 2, none⟩ = some (.int .i64 q) ∧ w2.cell? ⟨b, o + (k - 1) * 3, none⟩ = some (.string t) ∧ b < w2.heap.size ∧ b < w2.heap.size ∧ Below w.heap.size w w2) = S
        have HSI : Hid (∀ w2 : World, (w2.cell? ⟨b, o + k * 3, none⟩ = some (.string s) ∧ w2.cell? ⟨b, o + k * 3 + 1, none⟩ = some (.string m) ∧ w2.cell? ⟨b, o + k * 3 + 2, none⟩ = some (.int .i64 q) ∧ w2.cell? ⟨b, o + (k - 1) * 3, none⟩ = some (.string t) ∧ b < w2.heap.size ∧ b < w2.heap.size ∧ Below w.heap.size w w2) → S w2) := hide (fun w2 h => by rw [← hS]; exact h)
        have HSE : Hid (∀ w2 : World, S w2 → (w2.cell? ⟨b, o + k * 3, none⟩ = some (.string s) ∧ w2.cell? ⟨b, o + k * 3 + 1, none⟩ = some (.string m) ∧ w2.cell? ⟨b, o + k * 3 + 2, none⟩ = some (.int .i64 q) ∧ w2.cell? ⟨b, o + (k - 1) * 3, none⟩ = some (.string t) ∧ b < w2.heap.size ∧ b < w2.heap.size ∧ Below w.heap.size w w2)) := hide (fun w2 h => by rw [← hS] at h; exact h)
        clear hS
        have g0 : ∀ g : In S, g.x.cell? ⟨b, o + k * 3, none⟩ = some (.string s) := fun g => (unhide HSE _ g.h).1
        have g1 : ∀ g : In S, g.x.cell? ⟨b, o + k * 3 + 1, none⟩ = some (.string m) := fun g => (unhide HSE _ g.h).2.1
        have g2 : ∀ g : In S, g.x.cell? ⟨b, o + k * 3 + 2, none⟩ = some (.int .i64 q) := fun g => (unhide HSE _ g.h).2.2.1
        have g3 : ∀ g : In S, g.x.cell? ⟨b, o + (k - 1) * 3, none⟩ = some (.string t) := fun g => (unhide HSE _ g.h).2.2.2.1
        have HCB : Hid (∀ g : In S, Calls Tryz.prog 33 #[.agg #[.string s, .string m, .int .i64 q]] g.x fun x w' => x = .returned (.bool rt) ∧ S w') := hide (fun g => (unhide HCA g.x).mono (fun x w' ⟨hx, hb⟩ => ⟨hx, unhide HSI _ (unhide HK _ _ (unhide HSE _ g.h) hb)⟩))
        clear HCA
        cases rt with
        | false =>
          have hr : r = false := (unhide HR).symm.trans (okL_bad hlt ((unhide HBA).trans (by simp)))
          subst hr
          go_wp2
          refine wp_region_in S (by kernel_rfl) (by kernel_rfl) (unhide HSI _ ⟨?_, ?_, ?_, ?_, ?_, ?_, ?_⟩) ?_
          · go_keep
          · go_keep
          · go_keep
          · go_keep
          · exact z1
          · exact z1
          · exact below_drewN' (unhide hb) 1
          intro hne
          repeat (go_big_quiet_step (exact call_in _ (unhide HCB _)))
          refine wpQuiet_nil ?_
          rintro _ ⟨g, rfl⟩
          have HG := hide (unhide HSE _ g.h).2.2.2.2.2.2
          go_wp2
          go_ret
          exact ⟨rfl, unhide HG⟩
        | true =>
          by_cases k0 : k = 0
          · have hd' : Hid (∀ j, j < k + 1 → badL l j = false) := hide (badL_next (unhide hd) ((unhide HBA).trans (by simp [k0])))
            have kn : decide (0 < k) = false := by simp [k0]
            clear k0
            go_wp2
            refine wp_region_in S (by kernel_rfl) (by kernel_rfl) (unhide HSI _ ⟨?_, ?_, ?_, ?_, ?_, ?_, ?_⟩) ?_
            · go_keep
            · go_keep
            · go_keep
            · go_keep
            · exact z1
            · exact z1
            · exact below_drewN' (unhide hb) 1
            intro hne
            repeat (go_big_quiet_step (exact call_in _ (unhide HCB _)))
            refine wpQuiet_nil ?_
            rintro _ ⟨g, rfl⟩
            have HG := hide (unhide HSE _ g.h).2.2.2.2.2.2
            go_wp2
            exact ⟨⟨k + 1, by omega, by go_num, hd', HG⟩, by simp [intOf]; omega⟩
          · have kn : 0 < k := by omega
            have kk : (0 : Int) < (k : Int) := by omega
            have j1 : (0 : Int) ≤ (k : Int) - 1 := by omega
            have j2 : (k : Int) - 1 < (l.length : Int) := by omega
            have hwr : IntKind.i64.wrap ((k : Int) - 1) = (k : Int) - 1 := IntWalk.i64_in _ ⟨by omega, by omega⟩
            have htn : ((k : Int) - 1).toNat = k - 1 := by omega
            have hcmp := ltS_total t s
            cases hlx : ltS t s with
            | false =>
              have hr : r = false := (unhide HR).symm.trans (okL_bad hlt ((unhide HBA).trans (by simp [kn, hlx])))
              subst hr
              rw [hlx] at hcmp
              simp only [ltS, Bool.not_false] at hcmp
              go_wp2
              refine wp_region_in S (by kernel_rfl) (by kernel_rfl) (unhide HSI _ ⟨?_, ?_, ?_, ?_, ?_, ?_, ?_⟩) ?_
              · go_keep
              · go_keep
              · go_keep
              · go_keep
              · exact z1
              · exact z1
              · exact below_drewN' (unhide hb) 1
              intro hne
              repeat (go_big_quiet_step (exact call_in _ (unhide HCB _)))
              refine wpQuiet_nil ?_
              rintro _ ⟨g, rfl⟩
              have HG := hide (unhide HSE _ g.h).2.2.2.2.2.2
              go_wp2
              go_ret
              exact ⟨rfl, unhide HG⟩
            | true =>
              have hd' : Hid (∀ j, j < k + 1 → badL l j = false) := hide (badL_next (unhide hd) ((unhide HBA).trans (by simp [kn, hlx])))
              rw [hlx] at hcmp
              simp only [ltS, Bool.not_true] at hcmp
              go_wp2
              refine wp_region_in S (by kernel_rfl) (by kernel_rfl) (unhide HSI _ ⟨?_, ?_, ?_, ?_, ?_, ?_, ?_⟩) ?_
              · go_keep
              · go_keep
              · go_keep
              · go_keep
              · exact z1
              · exact z1
              · exact below_drewN' (unhide hb) 1
              intro hne
              repeat (go_big_quiet_step (exact call_in _ (unhide HCB _)))
              refine wpQuiet_nil ?_
              rintro _ ⟨g, rfl⟩
              have HG := hide (unhide HSE _ g.h).2.2.2.2.2.2
              go_wp2
              exact ⟨⟨k + 1, by omega, by go_num, hd', HG⟩, by simp [intOf]; omega⟩
      · have hr : r = true := (unhide HR).symm.trans (okL_true (by omega) (fun j hj => unhide hd j (by omega)))
        subst hr
        go_wp2
        go_ret
        exact ⟨rfl, unhide hb⟩
end Go.Proofs.YtnchgeiinkaefaaGreatDoor.Bill
end

section
/-
  'append(out, list...)' on a slice of uses of the call's own.
-/
namespace Go.Proofs.YtnchgeiinkaefaaGreatDoor.Sums
set_option linter.unusedVariables false
open Go.RowKit
open Uses (U U0 UR UC UOwn hide unhide infoU)

/-- three values each -/
abbrev flat2 (l : List U) : List Value := l.flatMap fun x => [.string x.1, .int .i64 x.2]
theorem flat2_len : ∀ l : List U, (flat2 l).length = l.length * 2
  | [] => rfl
  | x :: xs => by
    have := flat2_len xs
    simp only [flat2, List.flatMap_cons, List.length_append, List.length_cons, List.length_nil] at this ⊢
    omega
theorem flat2_get : ∀ (l : List U) (i : Nat) (x : U), l[i]? = some x → (flat2 l)[i * 2]? = some (.string x.1) ∧ (flat2 l)[i * 2 + 1]? = some (.int .i64 x.2)
  | [], i, x, h => by simp at h
  | y :: ys, 0, x, h => by
    simp only [List.getElem?_cons_zero, Option.some.injEq] at h
    subst h
    simp [flat2]
  | y :: ys, i + 1, x, h => by
    have := flat2_get ys i x (by simpa using h)
    have e1 : (i + 1) * 2 = i * 2 + 1 + 1 := by omega
    rw [e1]
    simp only [flat2, List.flatMap_cons, List.cons_append, List.nil_append, List.getElem?_cons_succ]
    exact this
theorem flat2_one (l : List U) : ∀ u ∈ flat2 l, u.oneCell' = true := by
  intro u hu
  obtain ⟨x, _, hx⟩ := List.mem_flatMap.1 hu
  simp only [List.mem_cons, List.not_mem_nil, or_false] at hx
  rcases hx with rfl | rfl <;> rfl
theorem flat2_at {l : List U} {j : Nat} {u : Value} (h : (flat2 l)[j]? = some u) : j / 2 < l.length ∧ u = (if j % 2 = 0 then .string (l.getD (j / 2) U0).1 else .int .i64 (l.getD (j / 2) U0).2) := by
  have hj : j < (flat2 l).length := (List.getElem?_eq_some_iff.1 h).1
  rw [flat2_len] at hj
  have hlt : j / 2 < l.length := by omega
  refine ⟨hlt, ?_⟩
  have hx : l[j / 2]? = some (l.getD (j / 2) U0) := by rw [List.getElem?_eq_getElem hlt]; simp [List.getD, hlt]
  obtain ⟨h0, h1⟩ := flat2_get l (j / 2) _ hx
  rcases (by omega : j % 2 = 0 ∨ j % 2 = 1) with e | e
  · have ej : j = j / 2 * 2 := by omega
    rw [ej, h0] at h
    rw [if_pos e]
    exact (Option.some.inj h).symm
  · have ej : j = j / 2 * 2 + 1 := by omega
    rw [ej, h1] at h
    rw [if_neg (by omega)]
    exact (Option.some.inj h).symm

/-- the slice of the call's own in block b, not below B, holds l -/
def XU (W : World) (B b c : Nat) (l : List U) : Prop := W.ownsRow B 73 2 (.slice (some ⟨b, 0, none⟩) l.length c) l.length (flat2 l)

theorem XU.own {W : World} {B b c : Nat} {l : List U} (h : XU W B b c l) : B ≤ b ∧ UOwn W b l := by
  obtain ⟨_, h2⟩ := h
  rcases h2 with ⟨h2, _⟩ | ⟨g, cap, cur, hv, hb, hg, _, _, hc3, hc4⟩
  · simp at h2
  · simp only [Value.slice.injEq, Option.some.injEq, Addr.mk.injEq, and_true, true_and] at hv
    obtain ⟨rfl, rfl⟩ := hv
    refine ⟨hb, ⟨?_, fun i hi => ?_⟩, fun j => ?_⟩
    · refine Nat.lt_of_not_le fun hle => ?_
      rw [Array.getElem?_eq_none hle] at hg; simp at hg
    · have hx : l[i]? = some (l.getD i U0) := by rw [List.getElem?_eq_getElem hi]; simp [List.getD, hi]
      obtain ⟨h0, h1⟩ := flat2_get l i _ hx
      rw [← hc4, List.getElem?_take_of_lt (by omega)] at h0 h1
      simp only [World.cell?, hg]
      refine ⟨?_, ?_⟩
      · simpa using h0
      · simpa using h1
    · simp only [World.frozen?, hg]; simp
theorem XU.cap {W : World} {B b c : Nat} {l : List U} (h : XU W B b c l) : l.length ≤ c := by
  rcases h.2 with ⟨h3, _⟩ | ⟨g, cap, cur, hv, _, _, h3, _⟩
  · simp at h3
  · simp only [Value.slice.injEq, Option.some.injEq, Addr.mk.injEq, and_true, true_and] at hv
    omega
theorem XU.ur {W : World} {B b c : Nat} {l : List U} (h : XU W B b c l) : UR W (.slice (some ⟨b, 0, none⟩) l.length c) l := .inr ⟨b, 0, c, rfl, h.own.2.1⟩
theorem XU.kept {W W' : World} {B b c : Nat} {l : List U} {r : Option Nat} (h : XU W B b c l) (hg : W.grownBy W' r) (hne : some b ≠ r) : XU W' B b c l :=
  World.ownsRow.kept h hg (.inr (by simpa [Value.ownBlock] using hne))
theorem XU.made (w : World) (B : Nat) (hB : B ≤ w.heap.size) (t : TypeId) (ht : t = 73) : XU (w.alloc (.cells #[] t)) B w.heap.size 0 [] := by
  subst ht
  refine ⟨rfl, .inr ⟨w.heap.size, 0, #[], rfl, hB, (MapKept.heap_alloc w _).1, by simp, by simp, by simp, by simp⟩⟩

theorem src_of {w : World} {xv : Value} {l2 : List U} (hx : UR w xv l2) (i : TypeInfo) (hs : i.size = 2) : Src Tryz.prog i.size 48 xv l2.length (flat2 l2) w := by
  rw [hs]
  rcases hx with ⟨rfl, a, c, rfl⟩ | ⟨b2, o2, cap2, rfl, hc⟩
  · cases a with
    | none => exact Src.ofNil w Tryz.underlying48 c
    | some ad => exact Src.ofSlice w Tryz.underlying48 ad 0 c [] rfl (fun j u hj => by simp at hj) (fun u hu => by simp at hu)
  · refine Src.ofSlice w Tryz.underlying48 ⟨b2, o2, none⟩ l2.length cap2 (flat2 l2) (flat2_len l2) (fun j u hj => ?_) (flat2_one l2)
    obtain ⟨hlt, rfl⟩ := flat2_at hj
    obtain ⟨c0, c1⟩ := hc.2 (j / 2) hlt
    rw [Addr.add_lit]
    rcases (by omega : j % 2 = 0 ∨ j % 2 = 1) with e | e
    · rw [if_pos e]
      have ej : o2 + j = o2 + j / 2 * 2 := by omega
      rw [ej]; exact c0
    · rw [if_neg (by omega)]
      have ej : o2 + j = o2 + j / 2 * 2 + 1 := by omega
      rw [ej]; exact c1

theorem run_appU (w : World) (ty : TypeId) (B b c n : Nat) (l l2 : List U) (xv : Value) (hn : l.length = n) (hown : XU w B b c l) (hx : UR w xv l2) (hl : l.length + l2.length ≤ 3000000) (hB : B ≤ w.heap.size) :
    ∃ b' c' w', (Builtin.append_ #[48, 48] ty #[.slice (some ⟨b, 0, none⟩) n c, xv]).run Tryz.prog w = .ok (.slice (some ⟨b', 0, none⟩) (n + l2.length) c') w' ∧ XU w' B b' c' (l ++ l2) ∧ w.grownBy w' (some b) ∧ (b = b' ∨ b' = w.heap.size) ∧ b' < w'.heap.size := by
  subst hn
  obtain ⟨i, hi, h2⟩ := Option.map_eq_some_iff.1 infoU
  simp only [Prod.mk.injEq] at h2
  obtain ⟨hz, hs, hb⟩ := h2
  by_cases h0 : l2 = []
  · subst h0
    have hsrc := src_of hx i hs
    obtain ⟨hB', hE⟩ := hown.own
    have hcap : l.length ≤ c := by
      rcases hown.2 with ⟨h3, _⟩ | ⟨g, cap, cur, hv, _, _, h3, _⟩
      · simp at h3
      · simp only [Value.slice.injEq, Option.some.injEq, Addr.mk.injEq, and_true, true_and] at hv
        omega
    have := run_append_room_src (P := Tryz.prog) w 48 48 ty 73 i Tryz.underlying48 hi b 0 l.length c xv 0 [] hsrc (by omega) (fun j hj => by simp at hj) (fun j hj => by simp at hj)
    refine ⟨b, c, w, this, by rw [List.append_nil]; exact hown, World.grownBy.refl _ _, .inl rfl, hE.1.1⟩
  · rcases hx with ⟨h0', _⟩ | ⟨b2, o2, cap2, rfl, hc⟩
    · exact absurd h0' h0
    have hpos : 0 < l2.length := List.length_pos_iff.2 h0
    have hUR : UR w (.slice (some ⟨b2, o2, none⟩) l2.length cap2) l2 := .inr ⟨b2, o2, cap2, rfl, hc⟩
    have hnews : ∀ j u, (flat2 l2)[j]? = some u → w.cell? ((⟨b2, o2, none⟩ : Addr).add j) = some u := fun j u hj => by
      obtain ⟨hlt, rfl⟩ := flat2_at hj
      obtain ⟨c0, c1⟩ := hc.2 (j / 2) hlt
      rw [Addr.add_lit]
      rcases (by omega : j % 2 = 0 ∨ j % 2 = 1) with e | e
      · rw [if_pos e]
        have ej : o2 + j = o2 + j / 2 * 2 := by omega
        rw [ej]; exact c0
      · rw [if_neg (by omega)]
        have ej : o2 + j = o2 + j / 2 * 2 + 1 := by omega
        rw [ej]; exact c1
    obtain ⟨g, cap, w', hr, g2, g3, g4, g5⟩ := run_append_lies (P := Tryz.prog) w 48 ty B 73 i _ 2 24 Tryz.underlying48 hi hz hs hb rfl (by omega) _ l.length (flat2 l) hown ⟨b2, o2, none⟩ l2.length cap2 (flat2 l2) (flat2_len l2) hnews (flat2_one l2) hpos (by unfold maxLen; omega) (by omega) hB _ rfl
    refine ⟨g, cap, w', hr, ?_, g3, ?_, g5⟩
    · unfold XU
      rw [List.length_append, flat2, List.flatMap_append]
      exact g2
    · rcases g4 with g4 | g4
      · exact .inl (by simpa [Value.ownBlock] using g4)
      · exact .inr g4

/-- the first k of them, in the same block -/
theorem XU.take {W : World} {B b c : Nat} {l : List U} (h : XU W B b c l) (k : Nat) (hk : k ≤ l.length) : XU W B b c (l.take k) := by
  have hlen : (l.take k).length = k := by rw [List.length_take]; omega
  obtain ⟨_, h2⟩ := h
  rcases h2 with ⟨h2, _⟩ | ⟨g, cap, cur, hv, hb, hg, hc1, hc2, hc3, hc4⟩
  · simp at h2
  · simp only [Value.slice.injEq, Option.some.injEq, Addr.mk.injEq, and_true, true_and] at hv
    obtain ⟨rfl, rfl⟩ := hv
    refine ⟨by rw [flat2_len], .inr ⟨b, c, cur, by rw [hlen], hb, hg, by omega, hc2, hc3, ?_⟩⟩
    rw [hlen]
    have e1 : flat2 l = flat2 (l.take k) ++ flat2 (l.drop k) := by
      unfold flat2
      rw [← List.flatMap_append, List.take_append_drop]
    rw [e1] at hc4
    have e2 : (cur.toList.take (l.length * 2)).take (k * 2) = (flat2 (l.take k) ++ flat2 (l.drop k)).take (k * 2) := by rw [hc4]
    rw [List.take_take, Nat.min_eq_left (by omega)] at e2
    rw [e2]
    have e3 : (flat2 (l.take k)).length = k * 2 := by rw [flat2_len, hlen]
    rw [List.take_append_of_le_length (by omega), ← e3, List.take_length]
theorem XU.mono {W : World} {B B' b c : Nat} {l : List U} (h : XU W B b c l) (hb : B' ≤ B) : XU W B' b c l := by
  obtain ⟨h1, h2⟩ := h
  refine ⟨h1, ?_⟩
  rcases h2 with h2 | ⟨g, cap, cur, hv, hb', r⟩
  · exact .inl h2
  · exact .inr ⟨g, cap, cur, hv, by omega, r⟩
/-- another number at one of them -/
theorem XU.setQ {W : World} {B b c : Nat} {l : List U} (h : XU W B b c l) {k : Nat} (hk : k < l.length) (q : Int) : XU (W.setCell ⟨b, k * 2 + 1, none⟩ (.int .i64 q)) B b c (l.set k ((l.getD k U0).1, q)) := by
  have hlen : (l.set k ((l.getD k U0).1, q)).length = l.length := by rw [List.length_set]
  obtain ⟨h1, h2⟩ := h
  rcases h2 with ⟨h2, _⟩ | ⟨g, cap, cur, hv, hb, hg, hc1, hc2, hc3, hc4⟩
  · simp at h2
  · simp only [Value.slice.injEq, Option.some.injEq, Addr.mk.injEq, and_true, true_and] at hv
    obtain ⟨rfl, rfl⟩ := hv
    have hbs : b < W.heap.size := by
      refine Nat.lt_of_not_le fun hle => ?_
      rw [Array.getElem?_eq_none hle] at hg; simp at hg
    refine ⟨by rw [flat2_len], .inr ⟨b, c, cur.set! (k * 2 + 1) (.int .i64 q), by rw [hlen], hb, ?_, by omega, hc2, by simpa using hc3, ?_⟩⟩
    · simp only [World.setCell, Array.getElem?_modify, hg, Option.map_some]
      simp
    · rw [hlen]
      refine List.ext_getElem? fun j => ?_
      by_cases hj : j < l.length * 2
      · rw [List.getElem?_take_of_lt hj]
        have hfl : (flat2 (l.set k ((l.getD k U0).1, q))).length = l.length * 2 := by rw [flat2_len, hlen]
        have h3 : ∃ u, (flat2 (l.set k ((l.getD k U0).1, q)))[j]? = some u := ⟨_, List.getElem?_eq_getElem (by omega)⟩
        obtain ⟨u, hu⟩ := h3
        have h4 : ∃ u, (flat2 l)[j]? = some u := ⟨_, List.getElem?_eq_getElem (by rw [flat2_len]; omega)⟩
        obtain ⟨u', hu'⟩ := h4
        obtain ⟨_, e1⟩ := flat2_at hu
        obtain ⟨_, e2⟩ := flat2_at hu'
        have hcj : cur.toList[j]? = some u' := by rw [← hu', ← hc4, List.getElem?_take_of_lt hj]
        rw [hu]
        simp only [Array.set!, Array.toList_setIfInBounds]
        by_cases ej : j = k * 2 + 1
        · subst ej
          rw [List.getElem?_set_self (by rw [Array.length_toList]; omega)]
          have d1 : (k * 2 + 1) % 2 = 1 := by omega
          have d2 : (k * 2 + 1) / 2 = k := by omega
          rw [d1, d2, if_neg (by omega)] at e1
          rw [e1]
          simp [List.getD, hk]
        · rw [List.getElem?_set_ne (by omega), hcj, e1, e2]
          by_cases e3 : j / 2 = k
          · have e4 : j % 2 = 0 := by omega
            rw [if_pos e4, if_pos e4, e3]
            simp [List.getD, hk]
          · have : (l.set k ((l.getD k U0).1, q)).getD (j / 2) U0 = l.getD (j / 2) U0 := by
              simp only [List.getD]
              rw [List.getElem?_set_ne (by omega)]
            rw [this]
      · rw [List.getElem?_eq_none (by rw [List.length_take]; omega), List.getElem?_eq_none (by rw [flat2_len, hlen]; omega)]

section
variable {ops : Array Oper} {o : Oper} {a : Act} {K : Act → World → Prop} {Q : Exit → Act → World → Prop} {P0 : Prop}
theorem wp_appU (w : World) (s x : Operand) (ho : o.op = .call { callee := .builtin .append, args := #[s, x], argTypes := #[48, 48] })
    (B b c n : Nat) (l l2 : List U) (xv : Value) (hn : l.length = n) (hs : a.eval s = .slice (some ⟨b, 0, none⟩) n c) (hown : XU w B b c l) (hxv : a.eval x = xv) (hx : UR w xv l2) (hl : l.length + l2.length ≤ 3000000) (hB : B ≤ w.heap.size)
    (h : ∀ b' c' w', XU w' B b' c' (l ++ l2) → w.grownBy w' (some b) → (b = b' ∨ b' = w.heap.size) → b' < w'.heap.size → K (a.put o.dst (.slice (some ⟨b', 0, none⟩) (n + l2.length) c')) w') : o.wp Tryz.prog a w K Q := by
  obtain ⟨b', c', w', hr, h2, h3, h4, h5⟩ := run_appU w o.type B b c n l l2 xv hn hown hx hl hB
  unfold Oper.wp execOp
  simp only [ho, resolve, invoke, builtin, Sem.run_bind, Sem.run_pure, Result.andThen_ok, List.map_toArray, List.map_cons, List.map_nil, hs, hxv, hr]
  exact h b' c' w' h2 h3 h4 h5
theorem listAppU (w : World) {rest : List Oper} (hgd : o.guard = none) (s x : Operand) (ho : o.op = .call { callee := .builtin .append, args := #[s, x], argTypes := #[48, 48] })
    (B b c n : Nat) (l l2 : List U) (xv : Value) (hn : l.length = n) (hs : a.eval s = .slice (some ⟨b, 0, none⟩) n c) (hown : XU w B b c l) (hxv : a.eval x = xv) (hx : UR w xv l2) (hl : l.length + l2.length ≤ 3000000) (hB : B ≤ w.heap.size)
    (h : ∀ b' c' w', XU w' B b' c' (l ++ l2) → w.grownBy w' (some b) → (b = b' ∨ b' = w.heap.size) → b' < w'.heap.size → wpList Tryz.prog ops Q rest (a.put o.dst (.slice (some ⟨b', 0, none⟩) (n + l2.length) c')) w') :
    wpList Tryz.prog ops Q (o :: rest) a w :=
  wpList_plain hgd fun _ hK => wp_appU w s x ho B b c n l l2 xv hn hs hown hxv hx hl hB fun b' c' w' h2 h3 h4 h5 => hK _ _ (h b' c' w' h2 h3 h4 h5)
theorem stepAppU (w : World) (hgd : o.guard = none) (s x : Operand) (ho : o.op = .call { callee := .builtin .append, args := #[s, x], argTypes := #[48, 48] })
    (B b c n : Nat) (l l2 : List U) (xv : Value) (hn : l.length = n) (hs : a.eval s = .slice (some ⟨b, 0, none⟩) n c) (hown : XU w B b c l) (hxv : a.eval x = xv) (hx : UR w xv l2) (hl : l.length + l2.length ≤ 3000000) (hB : B ≤ w.heap.size)
    (h : ∀ b' c' w', XU w' B b' c' (l ++ l2) → w.grownBy w' (some b) → (b = b' ∨ b' = w.heap.size) → b' < w'.heap.size → K (a.put o.dst (.slice (some ⟨b', 0, none⟩) (n + l2.length) c')) w') :
    if Region.wanted o (yielded ops a.tmps) = true then Oper.wp Tryz.prog o a w K Q else P0 := by
  have hw : Region.wanted o (yielded ops a.tmps) = true := by simp [Region.wanted, hgd]
  rw [if_pos hw]
  exact wp_appU w s x ho B b c n l l2 xv hn hs hown hxv hx hl hB h
end
end Go.Proofs.YtnchgeiinkaefaaGreatDoor.Sums
end

section
/-
  spec.UseSums: what it answers.
-/
namespace Go.Proofs.YtnchgeiinkaefaaGreatDoor.Sums
set_option linter.unusedVariables false
open Go.RowKit Go.Maps MapM
open Uses (U U0 UOwn UC UR)
open Evs (E E0 hide unhide below_trans below_drewN' ER EC ltS ltS_iff)

theorem UR.drop {W : World} {b c : Nat} {l : List U} (h : UC W b 0 l) (p : Nat) (hp : p ≤ l.length) (c' : Nat) : UR W (.slice (some ⟨b, 0 + p * 2, none⟩) (l.length - p) c') (l.drop p) := by
  refine .inr ⟨b, 0 + p * 2, c', by simp, h.1, fun i hi => ?_⟩
  have hi' : p + i < l.length := by simp at hi; omega
  have e : (l.drop p).getD i U0 = l.getD (p + i) U0 := by simp [List.getD]
  have e2 : 0 + p * 2 + i * 2 = 0 + (p + i) * 2 := by omega
  rw [e, e2]
  exact h.2 (p + i) hi'
theorem run_dropU {w : World} {b : Nat} {l : List U} {p vc : Nat} (h : UC w b 0 l) (hp : p ≤ l.length) (hv : l.length ≤ vc) :
    ∃ a' c', (Instr.sliceAt 48 (.slice (some ⟨b, 0, none⟩) l.length vc) (some (.int .i64 (p : Int))) none none).run Tryz.prog w = .ok (.slice a' (l.length - p) c') w ∧ UR w (.slice a' (l.length - p) c') (l.drop p) := by
  have h0 : (0 : Int) ≤ (p : Int) := by omega
  have h1 : (p : Int) ≤ (l.length : Int) := by omega
  have h2 : (p : Int) ≤ (vc : Int) := by omega
  by_cases hpv : vc = p
  · have hlp : l.length = p := by omega
    subst hpv
    refine ⟨some ⟨b, 0, none⟩, 0, ?_, .inl ⟨by rw [List.drop_eq_nil_iff]; omega, _, _, by rw [hlp, Nat.sub_self]⟩⟩
    rw [hlp]
    go_simp
  · have := UR.drop (c := 0) h p hp (vc - p)
    rw [Nat.zero_add] at this
    exact ⟨some ⟨b, p * 2, none⟩, vc - p, by go_simp, this⟩
theorem wpList_dropU {ops : Array Oper} {o : Oper} {a : Act} {Q : Exit → Act → World → Prop} {w : World} {rest : List Oper} (hgd : o.guard = none) (s x : Operand) (ho : o.op = Op.slice 48 s (some x) none none)
    (b : Nat) (l : List U) (p vc n : Nat) (hn : n = l.length) (hs : a.eval s = .slice (some ⟨b, 0, none⟩) n vc) (hx : a.eval x = .int .i64 (p : Int)) (h : UC w b 0 l) (hp : p ≤ l.length) (hv : l.length ≤ vc)
    (hK : ∀ a' c', UR w (.slice a' (l.length - p) c') (l.drop p) → wpList Tryz.prog ops Q rest (a.put o.dst (.slice a' (l.length - p) c')) w) : wpList Tryz.prog ops Q (o :: rest) a w := by
  subst hn
  refine wpList_plain hgd fun K' hK' => ?_
  obtain ⟨a', c', hr, h2⟩ := run_dropU h hp hv
  unfold Oper.wp execOp
  simp only [ho, hs, hx, Option.map_some, Option.map_none, Sem.run_bind, hr, Result.andThen_ok, Sem.run_pure]
  exact hK' _ _ (hK a' c' h2)

theorem XU.mk0 {w : World} {B b : Nat} (hB : B ≤ w.heap.size) (hb : w.heap.size = b) : XU (w.alloc (.cells #[] 73)) B b 0 [] := by
  rw [← hb]; exact XU.made w B hB _ rfl
theorem srcNewU (w : World) (s : ByteArray) (q : Int) : UR (w.alloc (.cells #[.string s, .int .i64 q] 73)) (.slice (some ⟨w.heap.size, 0, none⟩) 1 1) [(s, q)] := by
  have e1 := (MapKept.heap_alloc w (.cells #[.string s, .int .i64 q] 73)).1
  refine .inr ⟨w.heap.size, 0, 1, rfl, by simp, fun i hi => ?_⟩
  have : i = 0 := by simpa using hi
  subst this
  simp only [World.cell?]
  rw [e1]
  exact ⟨rfl, rfl⟩

theorem below_drew1 {B : Nat} {a w : World} (h : Below B a w) : Below B a w.drew := ⟨h.os, h.tape, h.output, h.size, h.block⟩
theorem srcNU {w : World} {N : Nat} (hN : w.heap.size = N) (s : ByteArray) (q : Int) : UR (w.alloc (.cells #[.string s, .int .i64 q] 73)) (.slice (some ⟨N, 0, none⟩) 1 1) [(s, q)] := by
  rw [← hN]; exact srcNewU w s q
theorem XU.up {w : World} {B b c n : Nat} {l : List U} {o : Obj} (h : XU w B b c l) : XU ((w.drewN n).alloc o) B b c l := h.kept (Evs.growB ((below_drewN' (Below.refl _ _) n).alloc (by simp) _) none) (by simp)
theorem UR.grown1 {W W' : World} {B b c g : Nat} {l : List U} (h : XU W B b c l) (hg : W.grownBy W' (some g)) (hne : b ≠ g) {n : Nat} (hn : n = l.length) : UR W' (.slice (some ⟨b, 0, none⟩) n c) l := by
  subst hn
  exact (h.kept hg (by simpa using hne)).ur

/-- where the walk along the sums stands still -/
theorem posU_at {l : List U} {m : ByteArray} {k : Nat} (hk : k ≤ l.length) (h1 : ∀ i, i < k → ltS (l.getD i U0).1 m = true) (h2 : k < l.length → ltS (l.getD k U0).1 m = false) : posU l m = k := by
  refine pos_of keyU hk (fun i hi hik => ?_) (fun hn => ?_)
  · have := ltS_iff.1 (h1 i hik)
    simpa [List.getD, hi] using this
  · intro hlt
    have h3 := h2 hn
    have : ltS (l.getD k U0).1 m = true := ltS_iff.2 (by simpa [List.getD, hn] using hlt)
    rw [this] at h3
    simp at h3
theorem has_of {l : List U} {m : ByteArray} (ha : Asc keyU l) {k : Nat} (hp : posU l m = k) (hk : k < l.length) : hasU l m = decide ((l.getD k U0).1 = m) := by
  have hg : l.getD k U0 = l[k] := by simp [List.getD, hk]
  rw [hg]
  by_cases h : l[k].1 = m
  · rw [has_at hk h, decide_eq_true h]
  · rw [decide_eq_false h]
    cases hh : hasU l m with
    | false => rfl
    | true =>
      obtain ⟨hp', he⟩ := has_yes ha hh
      simp only [hp] at he
      exact absurd he h
theorem has_end {l : List U} {m : ByteArray} (ha : Asc keyU l) (hp : posU l m = l.length) : hasU l m = false := by
  cases hh : hasU l m with
  | false => rfl
  | true =>
    obtain ⟨hp', _⟩ := has_yes ha hh
    omega
/-- the new one is laid in, then it takes what is added -/
theorem add_laid {l : List U} {m : ByteArray} {q : Int} (h : hasU l m = false) : (l.take (posU l m) ++ [(m, 0)] ++ l.drop (posU l m)).set (posU l m) (m, 0 + q) = addU l m q := by
  have hp := pos_le keyU m.data.toList l
  rw [add_no h, List.append_assoc, List.set_append_right _ _ (by rw [List.length_take]; exact Nat.min_le_left _ _)]
  have : posU l m - (l.take (posU l m)).length = 0 := by
    rw [List.length_take]
    have : posU l m ≤ l.length := hp
    omega
  rw [this]
  simp

set_option maxRecDepth 100000 in
set_option maxHeartbeats 4000000 in
/-- spec.UseSums -/
theorem useSumsS (v : Value) (l : List E) (w : World) (h : ER w v l) (hl : l.length ≤ 1048576) (hs : ∀ u ∈ l, u.1.size ≤ maxLen ∧ u.2.1.size ≤ maxLen) :
    Calls Tryz.prog 21 #[v] w fun e w' => ∃ v', e = .returned v' ∧ UN w.heap.size w' v' (sumsO l) ∧ Below w.heap.size w w' := by
  have hb0 : Below w.heap.size w (w.alloc (.cells #[] 73)) := (Below.refl _ _).alloc (Nat.le_refl _) _
  have H := hide (h.kept hb0)
  have HS := hide hs
  obtain ⟨a, c, rfl⟩ := h.slice
  have hcase : l.length = 0 ∨ ∃ b o, a = some ⟨b, o, none⟩ ∧ EC w b o l := by
    rcases h with ⟨rfl, _⟩ | ⟨b, o, cap, hv, hc⟩
    · exact .inl rfl
    · simp only [Value.slice.injEq] at hv
      exact .inr ⟨b, o, hv.1, hc⟩
  clear h hs
  cases hok : Evs.okB l with
  | false =>
    have e1 : sumsO l = [] := by unfold sumsO; rw [hok]; rfl
    rw [e1]
    clear hcase
    go_enter Tryz.func21, Tryz.ntmps21
    go_wp2_with (fail)
    refine (Evs.okS _ l _ (unhide H) hl (unhide HS)).mono ?_
    rintro e w3 ⟨rfl, hb3⟩
    rw [hok]
    have B3 := hide (below_trans hb0 hb3)
    clear hb3
    go_wp2
    go_ret
    exact ⟨_, rfl, .inl ⟨rfl, _, _, rfl⟩, unhide B3⟩
  | true =>
    have e1 : sumsO l = sums l := by unfold sumsO; rw [hok]; rfl
    rw [e1]
    clear e1
    have hl20 := Evs.okB_len hok
    have HQ := hide (sums_bound l (okB_qty hok))
    have HQ2 := hide (okB_qty hok)
    have HAs := hide (sums_asc l)
    have HLn := hide (sums_len l)
    have X0 := hide (XU.made w w.heap.size (Nat.le_refl _) 73 rfl)
    rcases hcase with h0 | ⟨b, o, rfl, hc⟩
    · obtain rfl : l = [] := List.length_eq_zero_iff.1 h0
      clear h0 HQ HQ2 HAs HLn X0
      go_enter Tryz.func21, Tryz.ntmps21
      go_wp2_with (fail)
      refine (Evs.okS _ [] _ (unhide H) hl (unhide HS)).mono ?_
      rintro e w3 ⟨rfl, hb3⟩
      rw [hok]
      have B3 := hide (below_trans hb0 hb3)
      clear hb3
      go_wp2
      refine wp_loop_rounds 1 ?_
      rw [rounds_succ]
      go_wp2
      go_ret
      exact ⟨_, rfl, .inl ⟨rfl, _, _, rfl⟩, unhide B3⟩
    · have HC := hide hc
      have hbs := hc.1
      clear hc
      go_enter Tryz.func21, Tryz.ntmps21
      go_wp2_with (fail)
      refine (Evs.okS _ l _ (unhide H) hl (unhide HS)).mono ?_
      rintro e w1 ⟨rfl, hb1⟩
      rw [hok]
      have B1 := hide (below_trans hb0 hb1)
      have X1 := hide ((unhide X0).kept (Evs.growB hb1 none) (by simp))
      clear hb1 hok X0 hb0
      go_wp2_with (fail)
      go_loopw [3, 4] (fun to ti wr => ∃ i g c' : Nat, i ≤ l.length ∧ ti = .int .i64 i ∧ to = .slice (some ⟨g, 0, none⟩) (sums (l.take i)).length c' ∧ Hid (XU wr w.heap.size g c' (sums (l.take i))) ∧ Hid (Below w.heap.size w wr)) (fun _ ti _ => l.length - (intOf ti).toNat)
      case atStart => exact ⟨0, w.heap.size, 0, Nat.zero_le _, rfl, rfl, X1, B1⟩
      case round =>
        obtain ⟨i, g, c', hi, rfl, rfl, hX, hB⟩ := hrel
        clear X1 B1
        by_cases hlt : i < l.length
        · have HST := hide (sums_step hlt)
          have hSl := unhide HLn i hi
          have HSA := hide (unhide HAs i hi)
          have HSQ := hide (unhide HQ i hi)
          obtain ⟨q0, q1⟩ : 0 ≤ (l.getD i E0).2.2 ∧ (l.getD i E0).2.2 ≤ 1000000000 := unhide HQ2 _ (by simp [List.getD, hlt])
          have HCC : Hid (∀ W, Below w.heap.size w W → W.cell? ⟨b, o + i * 3 + 1, none⟩ = some (.string (l.getD i E0).2.1) ∧ W.cell? ⟨b, o + i * 3 + 2, none⟩ = some (.int .i64 (l.getD i E0).2.2)) := hide (fun W hW => (((unhide HC).kept hW).2 i hlt).2)
          have i1 : (0 : Int) ≤ (i : Int) := by omega
          have i2 : (i : Int) < (l.length : Int) := by omega
          generalize sums (l.take i) = S at *
          generalize (l.getD i E0).2.1 = m at *
          generalize (l.getD i E0).2.2 = q at *
          go_wp2
          go_loopw [5] (fun t wr2 => ∃ k : Nat, k ≤ S.length ∧ t = .int .i64 k ∧ Hid (∀ j, j < k → ltS (S.getD j U0).1 m = true) ∧ Hid (XU wr2 w.heap.size g c' S) ∧ Hid (Below w.heap.size w wr2)) (fun t _ => S.length - (intOf t).toNat)
          case atStart => exact ⟨0, Nat.zero_le _, rfl, hide (fun j hj => by omega), hX, hB⟩
          case round =>
            obtain ⟨k, hk, rfl, hlo, hX2, hB2⟩ := hrel
            clear hX hB
            have hcap := (unhide hX2).cap
            have hgw := (unhide hX2).own.1
            obtain ⟨l1, l2⟩ := unhide HCC _ (unhide hB2)
            by_cases hkl : k < S.length
            · obtain ⟨s0, s1⟩ := (unhide hX2).own.2.1.2 k hkl
              have f1 := (unhide hX2).own.2.2 (k * 2 + 1)
              rw [Nat.zero_add] at s0 s1
              have k1 : (0 : Int) ≤ (k : Int) := by omega
              have k2 : (k : Int) < (S.length : Int) := by omega
              have k3 : ((k : Int) == (S.length : Int)) = false := by simp; omega
              cases hls : ltS (S.getD k U0).1 m with
              | true =>
                have hlo2 : Hid (∀ j, j < k + 1 → ltS (S.getD j U0).1 m = true) := hide (fun j hj => by
                  by_cases e : j = k
                  · subst e; exact hls
                  · exact unhide hlo j (by omega))
                clear hlo
                generalize (S.getD k U0).1 = sk at *
                generalize (S.getD k U0).2 = sq at *
                go_wp2
                go_quiet (fail)
                go_wp2
                exact ⟨⟨k + 1, by omega, by go_num, hlo2, hide ((unhide hX2).kept (Evs.growB (below_drewN' (Below.refl _ _) _) none) (by simp)), hide (below_drewN' (unhide hB2) _)⟩, by simp [intOf]; omega⟩
              | false =>
                have HP : Hid (posU S m = k) := hide (posU_at hk (unhide hlo) (fun _ => hls))
                have HHA := hide (has_of (unhide HSA) (unhide HP) hkl)
                have qb : 0 ≤ (S.getD k U0).2 ∧ (S.getD k U0).2 ≤ (i : Int) * 1000000000 := unhide HSQ _ (by simp [List.getD, hkl])
                by_cases hm : (S.getD k U0).1 = m
                · have hyes : Hid (hasU S m = true) := hide ((unhide HHA).trans (decide_eq_true hm))
                  have HX3 : Hid (∀ n, XU ((wr.drewN n).setCell ⟨g, k * 2 + 1, none⟩ (.int .i64 ((S.getD k U0).2 + q))) w.heap.size g c' (addU S m q)) := hide (fun n => by
                    have hX3 := ((unhide hX2).kept (Evs.growB (below_drewN' (Below.refl _ _) n) none) (by simp)).setQ hkl ((S.getD k U0).2 + q)
                    rw [hm] at hX3
                    rw [add_yes (unhide hyes), lk_yes (unhide hyes), unhide HP]; exact hX3)
                  have HLE : Hid ((addU S m q).length = S.length) := hide (by rw [add_yes (unhide hyes), List.length_set])
                  rw [hm] at s0 hls
                  have mm : (!m.toList == m.toList) = false := by simp
                  clear HHA hm hyes hlo
                  generalize (S.getD k U0).2 = r at *
                  go_wp2
                  go_quiet (fail)
                  go_wp2
                  go_quiet (fail)
                  go_wp2
                  go_region
                  go_wp2
                  exact ⟨⟨i + 1, g, c', by omega, by go_num, by rw [unhide HST, unhide HLE], by rw [unhide HST]; exact hide (unhide HX3 _), hide ((below_drewN' (unhide hB2) _).setCell (p := ⟨g, k * 2 + 1, none⟩) hgw _)⟩, by simp [intOf]; omega⟩
                · have hno : Hid (hasU S m = false) := hide ((unhide HHA).trans (decide_eq_false hm))
                  have mm : ((S.getD k U0).1.toList == m.toList) = false := by
                    rw [beq_eq_false_iff_ne]; intro e; exact hm (Uses.ext_toList e)
                  have HLE : Hid ((addU S m q).length = S.length + 1) := hide (by
                    rw [← add_laid (unhide hno), unhide HP]; simp; omega)
                  have HAD := hide (add_laid (q := q) (unhide hno))
                  rw [unhide HP] at HAD
                  clear HHA hm hlo hno
                  generalize (S.getD k U0).1 = sk at *
                  generalize (S.getD k U0).2 = sq at *
                  have kc : (k : Int) ≤ (c' : Int) := by omega
                  go_wp2
                  go_quiet (fail)
                  go_wp2
                  go_quiet (fail)
                  go_wp2_with (first | (refine wpList_dropU rfl _ _ rfl g S k c' S.length rfl rfl rfl ((unhide hX2).kept (Evs.growB ((below_drewN' (Below.refl wr.heap.size wr) _).alloc (by simp) _) none) (by simp)).own.2.1 hk hcap ?_; intro a8 c8 h8; have H8 := hide h8; clear h8) | (at_builtin; refine listAppU _ rfl _ _ rfl w.heap.size wr.heap.size 0 0 [] (S.drop k) _ rfl rfl (XU.mk0 (by simpa using (unhide hB2).size) (by simp)) rfl (unhide H8) (by simp; omega) (by simpa using Nat.le_succ_of_le (unhide hB2).size) ?_; intro b2 k2 w2 hx2 hg2 hat2 hlt2; have X2 := hide hx2; have G2 := hide hg2; clear hx2 hg2) | fail)
                  have BW : Below wr.heap.size wr w2 := ((below_drewN' (Below.refl wr.heap.size wr) _).alloc (by simp) _).grown (unhide G2) (by simp) (fun j hj => by cases hj; exact Nat.le_refl _)
                  have X3 := hide ((unhide hX2).kept (Evs.growB BW none) (by simp))
                  have B3 := hide (below_trans (unhide hB2) BW)
                  have hgl := (unhide hX2).own.2.1.1
                  have hb2 : b2 ≠ g ∧ w.heap.size ≤ b2 := by
                    have := (unhide hB2).size
                    rcases hat2 with rfl | rfl
                    · omega
                    · simp; omega
                  have m1 := (unhide HCC _ (unhide B3)).1
                  rw [List.nil_append] at X2
                  have hln2 : (S.drop k).length = S.length - k := List.length_drop
                  clear G2 hat2 hlt2 hX2 hB2 l1 l2 H8 BW
                  have ml : ∀ n, (w2.drewN n).cell? ⟨b, o + i * 3 + 1, none⟩ = some (.string m) := fun n => m1
                  go_wp2
                  go_region_law (first
                    | (refine stepAppU _ rfl _ _ rfl w.heap.size b7 c7 (k + 1) (S.take k ++ [(m, 0)]) (S.drop k) _ (by simp; omega) (by first | rfl | simp) hx7 rfl (UR.grown1 (XU.up (unhide X2)) hg7 hb2.1 (by first | rfl | omega | simp)) (by simp; omega) (Nat.le_trans (Nat.le_trans (unhide B3).size (by simp)) hg7.size) ?_; intro b8 c8' w8 hx8 hg8 hat8 hlt8)
                    | (refine stepAppU _ rfl _ _ rfl w.heap.size g c' k (S.take k) [(m, 0)] _ (by simp; omega) (by first | rfl | simp) ((XU.up (unhide X3)).take k hk) rfl (srcNU (by simp) m 0) (by simp; omega) (Nat.le_trans (unhide B3).size (by simp)) ?_; intro b7 c7 w7 hx7 hg7 hat7 hlt7))
                  have hb7 : w.heap.size ≤ b7 := hx7.own.1
                  have B8 : Hid (Below w.heap.size w w8) := hide (((below_drew1 ((unhide B3).alloc (unhide B3).size _)).grown hg7 (by have := (unhide B3).size; simp; omega) (fun j hj => by cases hj; exact hgw)).grown hg8 (Nat.le_trans (Nat.le_trans (unhide B3).size (by simp)) hg7.size) (fun j hj => by cases hj; exact hb7))
                  have hlen8 : (S.take k ++ [(m, (0 : Int))] ++ S.drop k).length = S.length + 1 := by simp; omega
                  have hk8 : k < (S.take k ++ [(m, (0 : Int))] ++ S.drop k).length := by omega
                  have hgd : (S.take k ++ [(m, (0 : Int))] ++ S.drop k).getD k U0 = (m, 0) := by
                    have e1 : (S.take k).length = k := by simp; omega
                    rw [List.getD, List.append_assoc, List.getElem?_append_right (by omega), e1, Nat.sub_self]
                    rfl
                  have HX9 : Hid (∀ n, XU ((w8.drewN n).setCell ⟨b8, k * 2 + 1, none⟩ (.int .i64 (0 + q))) w.heap.size b8 c8' (addU S m q)) := hide (fun n => by
                    have hX3 := (hx8.kept (Evs.growB (below_drewN' (Below.refl _ _) n) none) (by simp)).setQ hk8 (0 + q)
                    rw [hgd, unhide HAD] at hX3
                    exact hX3)
                  obtain ⟨_, s1⟩ := hx8.own.2.1.2 k hk8
                  have f1 := hx8.own.2.2 (k * 2 + 1)
                  rw [hgd, Nat.zero_add] at s1
                  have m2 := (unhide HCC _ (unhide B8)).2
                  have hb8 : w.heap.size ≤ b8 := hx8.own.1
                  have hn8 : k + 1 + (S.length - k) = S.length + 1 := by omega
                  have k5 : (k : Int) < ((S.length + 1 : Nat) : Int) := by omega
                  rw [Int.zero_add] at HX9
                  rw [hn8]
                  clear hx7 hg7 hat7 hlt7 hx8 hg8 hat8 hlt8 X2 X3 B3 m1 ml hgd hk8 hlen8 HAD hn8
                  go_wp2
                  go_region
                  go_wp2
                  exact ⟨⟨i + 1, b8, c8', by omega, by go_num, by rw [unhide HST, unhide HLE], by rw [unhide HST]; exact hide (unhide HX9 _), hide ((below_drewN' (unhide B8) _).setCell (p := ⟨b8, k * 2 + 1, none⟩) hb8 _)⟩, by simp [intOf]; omega⟩
            · have k1 : (0 : Int) ≤ (k : Int) := by omega
              have k2' : decide ((k : Int) < (S.length : Int)) = false := by simp; omega
              have k3 : ((k : Int) == (S.length : Int)) = true := by simp; omega
              have HP : Hid (posU S m = k) := hide (posU_at hk (unhide hlo) (fun h => absurd h hkl))
              have hke : k = S.length := by omega
              have hno : Hid (hasU S m = false) := hide (has_end (unhide HSA) ((unhide HP).trans hke))
              have HLE : Hid ((addU S m q).length = S.length + 1) := hide (by
                rw [← add_laid (unhide hno), unhide HP]; simp; omega)
              have HAD := hide (add_laid (q := q) (unhide hno))
              rw [unhide HP] at HAD
              clear hlo hno hke
              have kc : (k : Int) ≤ (c' : Int) := by omega
              go_wp2
              go_quiet (fail)
              go_wp2
              go_quiet (fail)
              go_wp2_with (first | (refine wpList_dropU rfl _ _ rfl g S k c' S.length rfl rfl rfl ((unhide hX2).kept (Evs.growB ((below_drewN' (Below.refl wr.heap.size wr) _).alloc (by simp) _) none) (by simp)).own.2.1 hk hcap ?_; intro a8 c8 h8; have H8 := hide h8; clear h8) | (at_builtin; refine listAppU _ rfl _ _ rfl w.heap.size wr.heap.size 0 0 [] (S.drop k) _ rfl rfl (XU.mk0 (by simpa using (unhide hB2).size) (by simp)) rfl (unhide H8) (by simp; omega) (by simpa using Nat.le_succ_of_le (unhide hB2).size) ?_; intro b2 k2 w2 hx2 hg2 hat2 hlt2; have X2 := hide hx2; have G2 := hide hg2; clear hx2 hg2) | fail)
              have BW : Below wr.heap.size wr w2 := ((below_drewN' (Below.refl wr.heap.size wr) _).alloc (by simp) _).grown (unhide G2) (by simp) (fun j hj => by cases hj; exact Nat.le_refl _)
              have X3 := hide ((unhide hX2).kept (Evs.growB BW none) (by simp))
              have B3 := hide (below_trans (unhide hB2) BW)
              have hgl := (unhide hX2).own.2.1.1
              have hb2 : b2 ≠ g ∧ w.heap.size ≤ b2 := by
                have := (unhide hB2).size
                rcases hat2 with rfl | rfl
                · omega
                · simp; omega
              have m1 := (unhide HCC _ (unhide B3)).1
              rw [List.nil_append] at X2
              have hln2 : (S.drop k).length = S.length - k := List.length_drop
              clear G2 hat2 hlt2 hX2 hB2 l1 l2 H8 BW
              have ml : ∀ n, (w2.drewN n).cell? ⟨b, o + i * 3 + 1, none⟩ = some (.string m) := fun n => m1
              go_wp2
              go_region_law (first
                | (refine stepAppU _ rfl _ _ rfl w.heap.size b7 c7 (k + 1) (S.take k ++ [(m, 0)]) (S.drop k) _ (by simp; omega) (by first | rfl | simp) hx7 rfl (UR.grown1 (XU.up (unhide X2)) hg7 hb2.1 (by first | rfl | omega | simp)) (by simp; omega) (Nat.le_trans (Nat.le_trans (unhide B3).size (by simp)) hg7.size) ?_; intro b8 c8' w8 hx8 hg8 hat8 hlt8)
                | (refine stepAppU _ rfl _ _ rfl w.heap.size g c' k (S.take k) [(m, 0)] _ (by simp; omega) (by first | rfl | simp) ((XU.up (unhide X3)).take k hk) rfl (srcNU (by simp) m 0) (by simp; omega) (Nat.le_trans (unhide B3).size (by simp)) ?_; intro b7 c7 w7 hx7 hg7 hat7 hlt7))
              have hb7 : w.heap.size ≤ b7 := hx7.own.1
              have B8 : Hid (Below w.heap.size w w8) := hide (((below_drew1 ((unhide B3).alloc (unhide B3).size _)).grown hg7 (by have := (unhide B3).size; simp; omega) (fun j hj => by cases hj; exact hgw)).grown hg8 (Nat.le_trans (Nat.le_trans (unhide B3).size (by simp)) hg7.size) (fun j hj => by cases hj; exact hb7))
              have hlen8 : (S.take k ++ [(m, (0 : Int))] ++ S.drop k).length = S.length + 1 := by simp; omega
              have hk8 : k < (S.take k ++ [(m, (0 : Int))] ++ S.drop k).length := by omega
              have hgd : (S.take k ++ [(m, (0 : Int))] ++ S.drop k).getD k U0 = (m, 0) := by
                have e1 : (S.take k).length = k := by simp; omega
                rw [List.getD, List.append_assoc, List.getElem?_append_right (by omega), e1, Nat.sub_self]
                rfl
              have HX9 : Hid (∀ n, XU ((w8.drewN n).setCell ⟨b8, k * 2 + 1, none⟩ (.int .i64 (0 + q))) w.heap.size b8 c8' (addU S m q)) := hide (fun n => by
                have hX3 := (hx8.kept (Evs.growB (below_drewN' (Below.refl _ _) n) none) (by simp)).setQ hk8 (0 + q)
                rw [hgd, unhide HAD] at hX3
                exact hX3)
              obtain ⟨_, s1⟩ := hx8.own.2.1.2 k hk8
              have f1 := hx8.own.2.2 (k * 2 + 1)
              rw [hgd, Nat.zero_add] at s1
              have m2 := (unhide HCC _ (unhide B8)).2
              have hb8 : w.heap.size ≤ b8 := hx8.own.1
              have hn8 : k + 1 + (S.length - k) = S.length + 1 := by omega
              have k5 : (k : Int) < ((S.length + 1 : Nat) : Int) := by omega
              rw [Int.zero_add] at HX9
              rw [hn8]
              clear hx7 hg7 hat7 hlt7 hx8 hg8 hat8 hlt8 X2 X3 B3 m1 ml hgd hk8 hlen8 HAD hn8
              go_wp2
              go_region
              go_wp2
              exact ⟨⟨i + 1, b8, c8', by omega, by go_num, by rw [unhide HST, unhide HLE], by rw [unhide HST]; exact hide (unhide HX9 _), hide ((below_drewN' (unhide B8) _).setCell (p := ⟨b8, k * 2 + 1, none⟩) hb8 _)⟩, by simp [intOf]; omega⟩
        · obtain rfl : i = l.length := by omega
          rw [List.take_length] at hX ⊢
          go_wp2
          go_ret
          exact ⟨_, rfl, .inr ⟨g, c', rfl, ⟨(unhide hX).own.1, (unhide hX).cap⟩, (unhide hX).own.2⟩, unhide hB⟩
end Go.Proofs.YtnchgeiinkaefaaGreatDoor.Sums
end
