/-
  Texts of this proof laid together, in build order; each says of itself what it holds.
-/
import Derived.Test.YtkdaljonmkfdaaaGreatDoorZao
import Derived.Test.YtkdaljonmkfdaaaGreatDoorZap
import Derived.Test.YtkdaljonmkfdaaaGreatDoorZaj
import Derived.Test.YtkdaljonmkfdaaaGreatDoorZah
section
/-
  Tariffs that are right: spec.l4Line, spec.l4Tariff.
-/
namespace Go.Proofs.YtkdaljonmkfdaaaGreatDoor.Bill
set_option linter.unusedVariables false
open Go.RowKit RegIn Evs
open Rule (ReadOut readS IsRule)
open Kinds (nameB nameS)

theorem rule_outS {w w' : World} {t : ByteArray} {v : Value} {ok : Bool} (h : ReadOut w w' t.data.toList v ok) : ok = ruleB t := by
  unfold ruleB
  cases ok with
  | true =>
    obtain ⟨e, _, h1, _⟩ := h.1 rfl
    exact (@decide_eq_true _ (Classical.propDecidable _) ⟨e, h1⟩).symm
  | false => exact (@decide_eq_false _ (Classical.propDecidable _) (fun ⟨e, he⟩ => (h.2 rfl).2 e he)).symm

set_option maxRecDepth 20000 in
set_option maxHeartbeats 1000000 in
/-- spec.l4Line -/
theorem lineS (s m : ByteArray) (q : Int) (W : World) (h1 : s.size ≤ maxLen) (h2 : m.size ≤ maxLen) : Calls Tryz.prog 75 #[.agg #[.string s, .string m, .int .i64 q]] W fun x w' => x = .returned (.bool (lineB (s, m, q))) ∧ Below W.heap.size W w' := by
  generalize hr : lineB (s, m, q) = r
  have HR : Hid ((nameB s && decide (0 ≤ q ∧ q ≤ 5000) && ruleB m) = r) := hide hr
  clear hr
  go_enter Tryz.func75, Tryz.ntmps75
  go_wp2_with (fail)
  refine (readS m _ h2).mono ?_
  rintro x w1 ⟨v, ok, rfl, hO, hb1⟩
  have hok := rule_outS hO
  rw [← hok] at HR
  clear hok
  obtain ⟨e1, e2, e3, a4, n4, k4, a5, n5, k5, hv⟩ : ∃ e1 e2 e3 a4 n4 k4 a5 n5 k5, v = .agg #[.int .i64 e1, .int .i64 e2, .string e3, .slice a4 n4 k4, .slice a5 n5 k5] := by
    cases ok with
    | true =>
      obtain ⟨e, d, _, hE⟩ := hO.1 rfl
      obtain ⟨ka, kc, ta, tc, rfl⟩ := hE.form
      exact ⟨_, _, _, _, _, _, _, _, _, rfl⟩
    | false => exact ⟨_, _, _, _, _, _, _, _, _, (hO.2 rfl).1⟩
  subst hv
  obtain ⟨q1, hB, hz1⟩ := Boxes.box1 hb1
  have hbw := Rule.below_alloc w1 (.cells #[.int .i64 e1, .int .i64 e2, .string e3, .slice a4 n4 k4, .slice a5 n5 k5] 25)
  have q2 := q1.below hbw (by omega)
  obtain ⟨c0, _⟩ := q2 0 _ rfl
  have Q2 := hide q2
  have HB := hide (below_trans hB hbw)
  have HZ : Hid ((w1.alloc (.cells #[.int .i64 e1, .int .i64 e2, .string e3, .slice a4 n4 k4, .slice a5 n5 k5] 25)).heap.size = w1.heap.size + 1) := hide (by simp)
  clear hO hb1 hB q1 q2 hbw
  go_wp2_with (fail)
  clear c0
  generalize w1.alloc (.cells #[.int .i64 e1, .int .i64 e2, .string e3, .slice a4 n4 k4, .slice a5 n5 k5] 25) = W1 at *
  have hzz := unhide HZ
  refine (nameS s _ h1).mono ?_
  rintro x w2 ⟨rfl, hb2⟩
  have q3 := (unhide Q2).below hb2 (by omega)
  obtain ⟨d2, _⟩ := q3 2 _ rfl
  have HB2 := hide (below_trans (unhide HB) hb2)
  clear hb2 q3
  cases hn : nameB s
  · have hr : r = false := by rw [← unhide HR, hn]; rfl
    subst hr
    go_wp2_with (fail)
    go_ret
    exact ⟨rfl, unhide HB2⟩
  · cases ok
    · have hr : r = false := by rw [← unhide HR]; simp
      subst hr
      go_wp2_with (fail)
      go_ret
      exact ⟨rfl, unhide HB2⟩
    · by_cases b1 : 0 ≤ q
      · by_cases b2 : q ≤ 5000
        · have hr : r = true := by rw [← unhide HR, hn, decide_eq_true ⟨b1, b2⟩]; rfl
          have b2' : decide (q ≤ 5000) = true := decide_eq_true b2
          subst hr
          go_wp2_with (fail)
          go_ret
          exact ⟨rfl, unhide HB2⟩
        · have hr : r = false := by rw [← unhide HR, decide_eq_false (fun h => b2 h.2)]; simp
          have b2' : decide (q ≤ 5000) = false := decide_eq_false b2
          subst hr
          go_wp2_with (fail)
          go_ret
          exact ⟨rfl, unhide HB2⟩
      · have hr : r = false := by rw [← unhide HR, decide_eq_false (fun h => b1 h.1)]; simp
        have b1' : decide (0 ≤ q) = false := decide_eq_false b1
        subst hr
        go_wp2_with (fail)
        go_ret
        exact ⟨rfl, unhide HB2⟩

set_option maxHeartbeats 2000000 in
/-- spec.l4Tariff -/
theorem tarS (v : Value) (l : List E) (w : World) (h : ER w v l) (hl : l.length ≤ 1048576) (hs : ∀ u ∈ l, u.1.size ≤ maxLen ∧ u.2.1.size ≤ maxLen) :
    Calls Tryz.prog 31 #[v] w fun e w' => e = .returned (.bool (okL l)) ∧ Below w.heap.size w w' := by
  by_cases h6 : 6 < l.length
  · rw [okL_long h6]
    obtain ⟨a, c, rfl⟩ := h.slice
    have y : (6 : Int) < l.length := by omega
    clear h
    go_enter Tryz.func31, Tryz.ntmps31
    go_wp2
    go_ret
    exact ⟨rfl, Below.refl _ _⟩
  have y : (l.length : Int) ≤ 6 := by omega
  rcases h with ⟨rfl, a, c, rfl⟩ | ⟨b, o, cap, rfl, hc⟩
  · go_enter Tryz.func31, Tryz.ntmps31
    go_wp2
    refine wp_loop_rounds 1 ?_
    rw [rounds_succ]
    go_wp2
    go_ret
    exact ⟨rfl, Below.refl _ _⟩
  · have HC := hide hc
    have hbs := hc.1
    clear hc
    generalize hr : okL l = r
    have HR := hide hr; clear hr
    go_enter Tryz.func31, Tryz.ntmps31
    go_wp2
    go_loopw [3] (fun i wr => ∃ k : Nat, k ≤ l.length ∧ i = .int .i64 k ∧ Hid (∀ j, j < k → badL l j = false) ∧ Hid (Below w.heap.size w wr)) (fun i _ => l.length - (intOf i).toNat)
    case atStart => exact ⟨0, Nat.zero_le _, rfl, hide (fun j hj => by omega), hide (Below.refl _ _)⟩
    case round =>
      obtain ⟨k, hk, rfl, hd, hb⟩ := hrel
      by_cases hlt : k < l.length
      · obtain ⟨c0, c1, c2⟩ := ((unhide HC).kept (unhide hb)).2 k hlt
        obtain ⟨hsz, hmz⟩ : (l.getD k E0).1.size ≤ maxLen ∧ (l.getD k E0).2.1.size ≤ maxLen := hs _ (by simp [List.getD, hlt])
        have i1 : (0 : Int) ≤ (k : Int) := by omega
        have i2 : (k : Int) < (l.length : Int) := by omega
        have z1 : b < wr.heap.size := Nat.lt_of_lt_of_le hbs (unhide hb).size
        have HBA : Hid (badL l k = (!lineB (l.getD k E0) || (decide (0 < k) && !ltS (l.getD (k - 1) E0).1 (l.getD k E0).1))) := hide rfl
        have k1 : k - 1 < l.length := by omega
        obtain ⟨p0, _, _⟩ := ((unhide HC).kept (unhide hb)).2 (k - 1) k1
        generalize hx : l.getD k E0 = x at *
        generalize hp : (l.getD (k - 1) E0).1 = t at *
        clear hx hp
        obtain ⟨s, m, q⟩ := x
        simp only at c0 c1 c2 hsz hmz
        have HCA : Hid (∀ W : World, Calls Tryz.prog 75 #[.agg #[.string s, .string m, .int .i64 q]] W fun x w' => x = .returned (.bool (lineB (s, m, q))) ∧ Below W.heap.size W w') := hide (fun W => lineS s m q W hsz hmz)
        generalize hR : lineB (s, m, q) = rt at *
        clear hR
        have HK : Hid (∀ w2 w3 : World, (w2.cell? ⟨b, o + k * 3, none⟩ = some (.string s) ∧ w2.cell? ⟨b, o + k * 3 + 1, none⟩ = some (.string m) ∧ w2.cell? ⟨b, o + k * 3 + 2, none⟩ = some (.int .i64 q) ∧ w2.cell? ⟨b, o + (k - 1) * 3, none⟩ = some (.string t) ∧ b < w2.heap.size ∧ b < w2.heap.size ∧ Below w.heap.size w w2) → Below w2.heap.size w2 w3 → (w3.cell? ⟨b, o + k * 3, none⟩ = some (.string s) ∧ w3.cell? ⟨b, o + k * 3 + 1, none⟩ = some (.string m) ∧ w3.cell? ⟨b, o + k * 3 + 2, none⟩ = some (.int .i64 q) ∧ w3.cell? ⟨b, o + (k - 1) * 3, none⟩ = some (.string t) ∧ b < w3.heap.size ∧ b < w3.heap.size ∧ Below w.heap.size w w3)) := hide (fun w2 w3 ⟨a1, a2, a3, a4, a5, a6, a7⟩ hb => ⟨(hb.cell (p := ⟨b, o + k * 3, none⟩) a6).trans a1, (hb.cell (p := ⟨b, o + k * 3 + 1, none⟩) a6).trans a2, (hb.cell (p := ⟨b, o + k * 3 + 2, none⟩) a6).trans a3, (hb.cell (p := ⟨b, o + (k - 1) * 3, none⟩) a6).trans a4, Nat.lt_of_lt_of_le a5 hb.size, Nat.lt_of_lt_of_le a6 hb.size, below_trans a7 hb⟩)
        generalize hS : (fun w2 : World => w2.cell? ⟨b, o + k * 3, none⟩ = some (.string s) ∧ w2.cell? ⟨b, o + k * 3 + 1, none⟩ = some (.string m) ∧ w2.cell? ⟨b, o + k * 3 + 2, none⟩ = some (.int .i64 q) ∧ w2.cell? ⟨b, o + (k - 1) * 3, none⟩ = some (.string t) ∧ b < w2.heap.size ∧ b < w2.heap.size ∧ Below w.heap.size w w2) = S
        have HSI : Hid (∀ w2 : World, (w2.cell? ⟨b, o + k * 3, none⟩ = some (.string s) ∧ w2.cell? ⟨b, o + k * 3 + 1, none⟩ = some (.string m) ∧ w2.cell? ⟨b, o + k * 3 + 2, none⟩ = some (.int .i64 q) ∧ w2.cell? ⟨b, o + (k - 1) * 3, none⟩ = some (.string t) ∧ b < w2.heap.size ∧ b < w2.heap.size ∧ Below w.heap.size w w2) → S w2) := hide (fun w2 h => by rw [← hS]; exact h)
        have HSE : Hid (∀ w2 : World, S w2 → (w2.cell? ⟨b, o + k * 3, none⟩ = some (.string s) ∧ w2.cell? ⟨b, o + k * 3 + 1, none⟩ = some (.string m) ∧ w2.cell? ⟨b, o + k * 3 + 2, none⟩ = some (.int .i64 q) ∧ w2.cell? ⟨b, o + (k - 1) * 3, none⟩ = some (.string t) ∧ b < w2.heap.size ∧ b < w2.heap.size ∧ Below w.heap.size w w2)) := hide (fun w2 h => by rw [← hS] at h; exact h)
        clear hS
        have g0 : ∀ g : In S, g.x.cell? ⟨b, o + k * 3, none⟩ = some (.string s) := fun g => (unhide HSE _ g.h).1
        have g1 : ∀ g : In S, g.x.cell? ⟨b, o + k * 3 + 1, none⟩ = some (.string m) := fun g => (unhide HSE _ g.h).2.1
        have g2 : ∀ g : In S, g.x.cell? ⟨b, o + k * 3 + 2, none⟩ = some (.int .i64 q) := fun g => (unhide HSE _ g.h).2.2.1
        have g3 : ∀ g : In S, g.x.cell? ⟨b, o + (k - 1) * 3, none⟩ = some (.string t) := fun g => (unhide HSE _ g.h).2.2.2.1
        have HCB : Hid (∀ g : In S, Calls Tryz.prog 75 #[.agg #[.string s, .string m, .int .i64 q]] g.x fun x w' => x = .returned (.bool rt) ∧ S w') := hide (fun g => (unhide HCA g.x).mono (fun x w' ⟨hx, hb⟩ => ⟨hx, unhide HSI _ (unhide HK _ _ (unhide HSE _ g.h) hb)⟩))
        clear HCA
        cases rt with
        | false =>
          have hr : r = false := (unhide HR).symm.trans (okL_bad hlt ((unhide HBA).trans (by simp)))
          subst hr
          go_wp2
          refine wp_region_in S (by kernel_rfl) (by kernel_rfl) (unhide HSI _ ⟨?_, ?_, ?_, ?_, ?_, ?_, ?_⟩) ?_
          · go_keep
          · go_keep
          · go_keep
          · go_keep
          · exact z1
          · exact z1
          · exact below_drewN' (unhide hb) 1
          intro hne
          repeat (go_big_quiet_step (exact call_in _ (unhide HCB _)))
          refine wpQuiet_nil ?_
          rintro _ ⟨g, rfl⟩
          have HG := hide (unhide HSE _ g.h).2.2.2.2.2.2
          go_wp2
          go_ret
          exact ⟨rfl, unhide HG⟩
        | true =>
          by_cases k0 : k = 0
          · have hd' : Hid (∀ j, j < k + 1 → badL l j = false) := hide (badL_next (unhide hd) ((unhide HBA).trans (by simp [k0])))
            have kn : decide (0 < k) = false := by simp [k0]
            clear k0
            go_wp2
            refine wp_region_in S (by kernel_rfl) (by kernel_rfl) (unhide HSI _ ⟨?_, ?_, ?_, ?_, ?_, ?_, ?_⟩) ?_
            · go_keep
            · go_keep
            · go_keep
            · go_keep
            · exact z1
            · exact z1
            · exact below_drewN' (unhide hb) 1
            intro hne
            repeat (go_big_quiet_step (exact call_in _ (unhide HCB _)))
            refine wpQuiet_nil ?_
            rintro _ ⟨g, rfl⟩
            have HG := hide (unhide HSE _ g.h).2.2.2.2.2.2
            go_wp2
            exact ⟨⟨k + 1, by omega, by go_num, hd', HG⟩, by simp [intOf]; omega⟩
          · have kn : 0 < k := by omega
            have kk : (0 : Int) < (k : Int) := by omega
            have j1 : (0 : Int) ≤ (k : Int) - 1 := by omega
            have j2 : (k : Int) - 1 < (l.length : Int) := by omega
            have hwr : IntKind.i64.wrap ((k : Int) - 1) = (k : Int) - 1 := IntWalk.i64_in _ ⟨by omega, by omega⟩
            have htn : ((k : Int) - 1).toNat = k - 1 := by omega
            have hcmp := ltS_total t s
            cases hlx : ltS t s with
            | false =>
              have hr : r = false := (unhide HR).symm.trans (okL_bad hlt ((unhide HBA).trans (by simp [kn, hlx])))
              subst hr
              rw [hlx] at hcmp
              simp only [ltS, Bool.not_false] at hcmp
              go_wp2
              refine wp_region_in S (by kernel_rfl) (by kernel_rfl) (unhide HSI _ ⟨?_, ?_, ?_, ?_, ?_, ?_, ?_⟩) ?_
              · go_keep
              · go_keep
              · go_keep
              · go_keep
              · exact z1
              · exact z1
              · exact below_drewN' (unhide hb) 1
              intro hne
              repeat (go_big_quiet_step (exact call_in _ (unhide HCB _)))
              refine wpQuiet_nil ?_
              rintro _ ⟨g, rfl⟩
              have HG := hide (unhide HSE _ g.h).2.2.2.2.2.2
              go_wp2
              go_ret
              exact ⟨rfl, unhide HG⟩
            | true =>
              have hd' : Hid (∀ j, j < k + 1 → badL l j = false) := hide (badL_next (unhide hd) ((unhide HBA).trans (by simp [kn, hlx])))
              rw [hlx] at hcmp
              simp only [ltS, Bool.not_true] at hcmp
              go_wp2
              refine wp_region_in S (by kernel_rfl) (by kernel_rfl) (unhide HSI _ ⟨?_, ?_, ?_, ?_, ?_, ?_, ?_⟩) ?_
              · go_keep
              · go_keep
              · go_keep
              · go_keep
              · exact z1
              · exact z1
              · exact below_drewN' (unhide hb) 1
              intro hne
              repeat (go_big_quiet_step (exact call_in _ (unhide HCB _)))
              refine wpQuiet_nil ?_
              rintro _ ⟨g, rfl⟩
              have HG := hide (unhide HSE _ g.h).2.2.2.2.2.2
              go_wp2
              exact ⟨⟨k + 1, by omega, by go_num, hd', HG⟩, by simp [intOf]; omega⟩
      · have hr : r = true := (unhide HR).symm.trans (okL_true (by omega) (fun j hj => unhide hd j (by omega)))
        subst hr
        go_wp2
        go_ret
        exact ⟨rfl, unhide hb⟩
end Go.Proofs.YtkdaljonmkfdaaaGreatDoor.Bill
end

section
/-
  spec.l4Gross, spec.BillOk.
-/
namespace Go.Proofs.YtkdaljonmkfdaaaGreatDoor.Bill
set_option linter.unusedVariables false
open Go.RowKit RegIn
open Evs (hide unhide below_trans below_drewN' ltS E ER)
open BRow (R R0 RR RC)
open Bills (I I0 IW IR IC B BV FineB FewB below_alloc)

set_option maxHeartbeats 1000000 in
/-- spec.l4Gross -/
theorem grossSp (x : I) (rv ev : Value) (w : World) (h : IW w rv ev x) (hk : invB x = true) : Calls Tryz.prog 35 #[.agg #[.int .i64 x.no, rv, ev, .int .i64 x.net, .int .i64 x.tax, .int .i64 x.credit]] w fun y w' => y = .returned (.int .i64 (grossX x)) ∧ Below w.heap.size w w' := by
  obtain ⟨hr, hv⟩ := h
  obtain ⟨ra, rc, rfl⟩ := hr.slice
  obtain ⟨ea, ec, rfl⟩ := hv.slice
  have hb := invB_bd hk
  unfold grossX at *
  obtain ⟨no, rows, evs, net, tax, credit⟩ := x
  simp only at *
  obtain ⟨⟨b1, b2⟩, ⟨b3, b4⟩, ⟨b5, b6⟩, b7, b8⟩ := hb
  clear hr hv hk
  go_enter Tryz.func35, Tryz.ntmps35
  go_wp2_with (fail)
  go_ret
  exact ⟨rfl, below_alloc _ _⟩

theorem unitB_neg {n : Int} (h : n < 0) : unitB n = false := by
  cases e : unitB n
  · rfl
  · have := unitB_iff.1 e
    omega
theorem unitB_coin {n : Int} (h : 0 ≤ n) : unitB n = Coin.okB n := by
  rw [Bool.eq_iff_iff, unitB_iff, Coin.okB_iff]
  omega

theorem gross_bd2 {l : List I} {k : Nat} (hl : l.length ≤ 8) (hk : k ≤ l.length) (h : ∀ j, j < k → badI l j = false) : 0 ≤ grossS (l.take k) ∧ grossS (l.take k) ≤ 8000000000000000 := by
  have := gross_bd (l.take k) (by rw [List.length_take]; omega) (fun j hj => by
    rw [List.length_take] at hj
    have e := h j (by omega)
    unfold badI at e
    simp only [Bool.not_eq_false', Bool.and_eq_true] at e
    have e2 : (l.take k).getD j I0 = l.getD j I0 := by simp [List.getD, show j < k by omega]
    rw [e2]
    exact e.2) k (by rw [List.length_take]; omega)
  rw [List.take_take, Nat.min_self] at this
  omega

set_option maxRecDepth 20000 in
set_option maxHeartbeats 1600000 in
/-- spec.BillOk -/
theorem billS (v : Value) (x : B) (w : World) (h : BV w v x) (hf : FineB x) (hw : FewB x) :
    Calls Tryz.prog 12 #[v] w fun y w' => y = .returned (.bool (billB x)) ∧ Below w.heap.size w w' := by
  obtain ⟨tv, ev, iv, rfl, ht, hev, hiv⟩ := h
  obtain ⟨ta, tc, rfl⟩ := ht.slice
  obtain ⟨ea, ec, rfl⟩ := hev.slice
  obtain ⟨ia, ic, rfl⟩ := hiv.slice
  generalize hz : billB x = z
  have HZ : Hid ((okL x.tar && Evs.okB x.evs && decide (x.invs.length ≤ 8) && ((List.range x.invs.length).all fun i => !badI x.invs i) && Coin.okB (grossS x.invs) && unitB x.paid) = z) := hide hz
  have HT := hide ht
  have HV := hide hev
  have HI := hide hiv
  obtain ⟨⟨f1, f2⟩, ⟨f3, f4⟩, f5, f6⟩ := hf
  obtain ⟨w1', w2', w3', w4'⟩ := hw
  clear ht hev hiv hz
  go_enter Tryz.func12, Tryz.ntmps12
  go_wp2_with (fail)
  refine (tarS _ x.tar _ ((unhide HT).kept (below_alloc _ _)) w1' f2).mono ?_
  rintro y w1 ⟨rfl, hb1⟩
  obtain ⟨q1, hB, hz1⟩ := Boxes.box1 hb1
  have Q1 := hide q1
  have B1 := hide hB
  obtain ⟨c1, _⟩ := q1 1 _ rfl
  clear hb1 hB q1
  cases hk : okL x.tar
  · have hr : z = false := by rw [← unhide HZ, hk]; rfl
    subst hr
    go_wp2_with (fail)
    go_ret
    exact ⟨rfl, unhide B1⟩
  go_wp2_with (fail)
  refine (Evs.okS _ x.evs w1 ((unhide HV).kept (unhide B1)) w2' f4).mono ?_
  rintro y w2 ⟨rfl, hb2⟩
  have q2 := (unhide Q1).below hb2 (by omega)
  have Q2 := hide q2
  have B2 := hide (below_trans (unhide B1) hb2)
  have hz2 := hb2.size
  obtain ⟨d2, _⟩ := q2 2 _ rfl
  obtain ⟨d3, _⟩ := q2 3 _ rfl
  clear hb2 q2 c1
  cases hv : Evs.okB x.evs
  · have hr : z = false := by rw [← unhide HZ, hk, hv]; rfl
    subst hr
    go_wp2_with (fail)
    go_ret
    exact ⟨rfl, unhide B2⟩
  by_cases h8 : x.invs.length ≤ 8
  rotate_left
  · have i8 : (8 : Int) < (x.invs.length : Int) := by omega
    have hr : z = false := by rw [← unhide HZ, decide_eq_false h8]; simp
    subst hr
    go_wp2_with (fail)
    go_ret
    exact ⟨rfl, unhide B2⟩
  have i8 : ¬ (8 : Int) < (x.invs.length : Int) := by omega
  have HZ1 : Hid ((((List.range x.invs.length).all fun i => !badI x.invs i) && Coin.okB (grossS x.invs) && unitB x.paid) = z) := hide (by rw [← unhide HZ, hk, hv, decide_eq_true h8]; rfl)
  clear HZ
  by_cases hp : x.paid < 0
  · have hr : z = false := by
      rw [← unhide HZ1, unitB_neg hp]; simp
    subst hr
    go_wp2_with (fail)
    go_ret
    exact ⟨rfl, unhide B2⟩
  go_wp2_with (fail)
  refine (Coin.okS x.paid _).mono ?_
  rintro q w5 ⟨rfl, hw5⟩
  subst hw5
  cases hg : Coin.okB x.paid
  · have hr : z = false := by rw [← unhide HZ1, unitB_coin hp, hg]; simp
    subst hr
    go_wp2_with (fail)
    go_ret
    exact ⟨rfl, unhide B2⟩
  have HZ2 : Hid ((((List.range x.invs.length).all fun i => !badI x.invs i) && Coin.okB (grossS x.invs)) = z) := hide (by rw [← unhide HZ1, unitB_coin hp, hg]; simp)
  have HNO : Hid (∀ k, k < x.invs.length → badI x.invs k = true → z = false) := hide (fun k hk' hb' => by
    have : ((List.range x.invs.length).all fun i => !badI x.invs i) = false := by
      rw [List.all_eq_false]
      exact ⟨k, by simpa using hk', by simp [hb']⟩
    rw [← unhide HZ2, this]; rfl)
  clear d2 d3 HZ1
  go_wp2_with (fail)
  go_loopw [3, 4] (fun a i wr => ∃ k : Nat, k ≤ x.invs.length ∧ i = .int .i64 k ∧ a = .int .i64 (grossS (x.invs.take k)) ∧ Hid (∀ j, j < k → badI x.invs j = false) ∧ Hid (Below w5.heap.size w5 wr)) (fun _ i _ => x.invs.length - (intOf i).toNat)
  case atStart => exact ⟨0, Nat.zero_le _, rfl, rfl, hide (fun j hj => by omega), hide (Below.refl _ _)⟩
  case round =>
    obtain ⟨k, hk', rfl, rfl, hd, hb⟩ := hrel
    have q3 := (unhide Q2).below (unhide hb) (by omega)
    have Q3 := hide q3
    have hz3 := (unhide hb).size
    obtain ⟨e2, _⟩ := q3 2 _ rfl
    clear q3
    by_cases hlt : k < x.invs.length
    · obtain ⟨b, o, cap, hcf, hc⟩ : ∃ b o cap, Value.slice ia x.invs.length ic = .slice (some ⟨b, o, none⟩) x.invs.length cap ∧ IC w b o x.invs := by
        rcases unhide HI with ⟨h, _⟩ | h
        · rw [h] at hlt; simp at hlt
        · exact h
      simp only [Value.slice.injEq, true_and] at hcf
      obtain ⟨rfl, rfl⟩ := hcf
      have HC := hide hc
      obtain ⟨rv, ev', ⟨c0, c1, c2, c3, c4, c5⟩, hiw⟩ := (hc.kept (below_trans (unhide B2) (unhide hb))).2 k hlt
      obtain ⟨ra, rc, hrf⟩ := hiw.1.slice
      obtain ⟨ea', ec', hef⟩ := hiw.2.slice
      subst hrf hef
      have hfi := f6 (x.invs.getD k I0) (by simp [List.getD, hlt])
      have hwi := w4' (x.invs.getD k I0) (by simp [List.getD, hlt])
      have HIW := hide hiw
      have HBA : Hid (badI x.invs k = !(decide ((x.invs.getD k I0).no = (k : Int) + 1) && invB (x.invs.getD k I0))) := hide rfl
      have hbd := gross_bd2 h8 hk' (unhide hd)
      have HST := hide (gross_take x.invs k hlt)
      have i1 : (0 : Int) ≤ (k : Int) := by omega
      have i2 : (k : Int) < (x.invs.length : Int) := by omega
      clear hiw hc
      generalize x.invs.getD k I0 = y at *
      generalize hgk : grossS (x.invs.take k) = g0 at *
      obtain ⟨d1, d2⟩ := hbd
      go_wp2_with (fail)
      refine (invS y _ _ _ _ (unhide HIW) hwi.1 hfi.1.2 hwi.2 hfi.2.2).mono ?_
      rintro q w3 ⟨rfl, hb3⟩
      have hbw : b < wr.heap.size := Nat.lt_of_lt_of_le (unhide HC).1 (below_trans (unhide B2) (unhide hb)).size
      have HB3 := hide (below_trans (unhide hb) hb3)
      have HIW3 := hide ((unhide HIW).kept hb3)
      have q4 := (unhide Q3).below hb3 (by omega)
      obtain ⟨e4, _⟩ := q4 2 _ rfl
      have u0 := Eq.trans (hb3.cell (by exact hbw)) c0
      have u1 := Eq.trans (hb3.cell (by exact hbw)) c1
      have u2 := Eq.trans (hb3.cell (by exact hbw)) c2
      have u3 := Eq.trans (hb3.cell (by exact hbw)) c3
      have u4 := Eq.trans (hb3.cell (by exact hbw)) c4
      have u5 := Eq.trans (hb3.cell (by exact hbw)) c5
      clear c0 c1 c2 c3 c4 c5 hb3 e2 q4 hfi hwi hb HIW
      cases hi : (decide (y.no = (k : Int) + 1) && invB y)
      · have hr : z = false := unhide HNO k hlt (by rw [unhide HBA, hi]; rfl)
        subst hr
        go_wp2_with (fail)
        go_ret
        exact ⟨rfl, below_trans (unhide B2) (unhide HB3)⟩
      · have hd' : Hid (∀ j, j < k + 1 → badI x.invs j = false) := hide (fun j hj => by
          by_cases e : j < k
          · exact unhide hd j e
          · obtain rfl : j = k := by omega
            rw [unhide HBA, hi]; rfl)
        have HKK := hide (Bool.and_eq_true _ _ ▸ hi).2
        clear hi
        have hgx := (invB_bd (unhide HKK)).2.2.2
        go_wp2_with (fail)
        refine (grossSp y _ _ _ (unhide HIW3) (unhide HKK)).mono ?_
        rintro q w4 ⟨rfl, hb4⟩
        have HB4 := hide (below_trans (unhide HB3) hb4)
        clear hb4 HB3 u0 u1 u2 u3 u4 u5 HIW3 HKK
        obtain ⟨g1, g2⟩ := hgx
        generalize grossX y = gx at *
        go_wp2_with (fail)
        exact ⟨⟨k + 1, by omega, by go_num, by rw [unhide HST], hd', HB4⟩, by simp [intOf]; omega⟩
    · obtain rfl : k = x.invs.length := by omega
      have hall : ((List.range x.invs.length).all fun i => !badI x.invs i) = true := by
        rw [List.all_eq_true]
        intro i hi
        rw [unhide hd i (by simpa using hi)]; rfl
      have HZ3 : Hid (Coin.okB (grossS x.invs) = z) := hide (by rw [← unhide HZ2, hall]; rfl)
      rw [List.take_length]
      generalize grossS x.invs = g at *
      go_wp2_with (fail)
      refine (Coin.okS g _).mono ?_
      rintro q w6 ⟨rfl, hw6⟩
      subst hw6
      have hr : z = Coin.okB g := (unhide HZ3).symm
      subst hr
      go_wp2_with (fail)
      go_ret
      exact ⟨rfl, below_trans (unhide B2) (unhide hb)⟩
end Go.Proofs.YtkdaljonmkfdaaaGreatDoor.Bill
end

section
/-
  Invoices and bills: the copy.
-/
namespace Go.Proofs.YtkdaljonmkfdaaaGreatDoor.Bills
set_option linter.unusedVariables false
open Go.RowKit
open Evs (E E0 ER EN EC EOwn)
open BRow (R R0 RR RN RC ROwn)

theorem en_low {B b o : Nat} {W : World} {v u : Value} {l : List E} (h : EN B W v l) (hb : b < B) : EN B (W.setCell ⟨b, o, none⟩ u) v l := by
  rcases h with h | ⟨g, cap, rfl, ⟨h1, h2⟩, ⟨h3, h4⟩, h5⟩
  · exact .inl h
  · have e : ∀ j, (W.setCell ⟨b, o, none⟩ u).cell? ⟨g, j, none⟩ = W.cell? ⟨g, j, none⟩ := fun j => World.cell?_setCell_other _ _ _ _ (by intro he; simp only [Addr.mk.injEq] at he; omega)
    exact .inr ⟨g, cap, rfl, ⟨h1, h2⟩, ⟨by simpa using h3, fun i hi => by rw [e, e, e]; exact h4 i hi⟩, fun j => by simpa [World.frozen?_setCell] using h5 j⟩
theorem rn_low {B b o : Nat} {W : World} {v u : Value} {l : List R} (h : RN B W v l) (hb : b < B) : RN B (W.setCell ⟨b, o, none⟩ u) v l := by
  rcases h with h | ⟨g, cap, rfl, ⟨h1, h2⟩, ⟨h3, h4⟩, h5⟩
  · exact .inl h
  · have e : ∀ j, (W.setCell ⟨b, o, none⟩ u).cell? ⟨g, j, none⟩ = W.cell? ⟨g, j, none⟩ := fun j => World.cell?_setCell_other _ _ _ _ (by intro he; simp only [Addr.mk.injEq] at he; omega)
    exact .inr ⟨g, cap, rfl, ⟨h1, h2⟩, ⟨by simpa using h3, fun i hi => by rw [e, e, e]; exact h4 i hi⟩, fun j => by simpa [World.frozen?_setCell] using h5 j⟩

/-- six cells are set -/
abbrev set6 (W : World) (b o : Nat) (x : I) (rv ev : Value) : World :=
  (((((W.setCell ⟨b, o, none⟩ (.int .i64 x.no)).setCell ⟨b, o + 1, none⟩ rv).setCell ⟨b, o + 2, none⟩ ev).setCell ⟨b, o + 3, none⟩ (.int .i64 x.net)).setCell ⟨b, o + 4, none⟩ (.int .i64 x.tax)).setCell ⟨b, o + 5, none⟩ (.int .i64 x.credit)

theorem set6_other (W : World) (b o : Nat) (x : I) (rv ev : Value) (q : Addr) (h : q.block ≠ b ∨ q.off < o ∨ o + 6 ≤ q.off) : (set6 W b o x rv ev).cell? q = W.cell? q := by
  obtain ⟨qb, qo, qs⟩ := q
  simp only at h
  rw [World.cell?_setCell_other _ _ _ _ (by simp only [ne_eq, Addr.mk.injEq]; omega), World.cell?_setCell_other _ _ _ _ (by simp only [ne_eq, Addr.mk.injEq]; omega), World.cell?_setCell_other _ _ _ _ (by simp only [ne_eq, Addr.mk.injEq]; omega), World.cell?_setCell_other _ _ _ _ (by simp only [ne_eq, Addr.mk.injEq]; omega), World.cell?_setCell_other _ _ _ _ (by simp only [ne_eq, Addr.mk.injEq]; omega), World.cell?_setCell_other _ _ _ _ (by simp only [ne_eq, Addr.mk.injEq]; omega)]
theorem set_has (W : World) (p q : Addr) (u : Value) (h : ∃ v, W.cell? q = some v) : ∃ v, (W.setCell p u).cell? q = some v := by
  by_cases e : p = q
  · subst e
    obtain ⟨v, hv⟩ := h
    exact ⟨u, World.cell?_setCell_same _ _ _ hv⟩
  · rw [World.cell?_setCell_other _ _ _ _ e]; exact h
theorem set6_same (W : World) (b o : Nat) (x : I) (rv ev : Value) (h : ∀ j, j < 6 → ∃ v, W.cell? ⟨b, o + j, none⟩ = some v) : I6 (set6 W b o x rv ev) b o x rv ev := by
  have h0 := h 0 (by omega)
  have h1 := h 1 (by omega)
  have h2 := h 2 (by omega)
  have h3 := h 3 (by omega)
  have h4 := h 4 (by omega)
  have h5 := h 5 (by omega)
  rw [Nat.add_zero] at h0
  have ne : ∀ i j : Nat, i ≠ j → (⟨b, o + i, none⟩ : Addr) ≠ ⟨b, o + j, none⟩ := fun i j h e => h (by simp only [Addr.mk.injEq, and_true, true_and] at e; omega)
  have ne0 : ∀ i : Nat, 0 < i → (⟨b, o + i, none⟩ : Addr) ≠ ⟨b, o, none⟩ := fun i h e => by simp only [Addr.mk.injEq, and_true, true_and] at e; omega
  refine ⟨?_, ?_, ?_, ?_, ?_, ?_⟩
  · rw [World.cell?_setCell_other _ _ _ _ (ne0 5 (by omega)), World.cell?_setCell_other _ _ _ _ (ne0 4 (by omega)), World.cell?_setCell_other _ _ _ _ (ne0 3 (by omega)), World.cell?_setCell_other _ _ _ _ (ne0 2 (by omega)), World.cell?_setCell_other _ _ _ _ (ne0 1 (by omega))]
    obtain ⟨v, hv⟩ := h0; exact World.cell?_setCell_same _ _ _ hv
  · rw [World.cell?_setCell_other _ _ _ _ (ne 5 1 (by omega)), World.cell?_setCell_other _ _ _ _ (ne 4 1 (by omega)), World.cell?_setCell_other _ _ _ _ (ne 3 1 (by omega)), World.cell?_setCell_other _ _ _ _ (ne 2 1 (by omega))]
    obtain ⟨v, hv⟩ := set_has _ ⟨b, o, none⟩ _ (.int .i64 x.no) h1; exact World.cell?_setCell_same _ _ _ hv
  · rw [World.cell?_setCell_other _ _ _ _ (ne 5 2 (by omega)), World.cell?_setCell_other _ _ _ _ (ne 4 2 (by omega)), World.cell?_setCell_other _ _ _ _ (ne 3 2 (by omega))]
    obtain ⟨v, hv⟩ := set_has _ ⟨b, o + 1, none⟩ _ rv (set_has _ ⟨b, o, none⟩ _ (.int .i64 x.no) h2); exact World.cell?_setCell_same _ _ _ hv
  · rw [World.cell?_setCell_other _ _ _ _ (ne 5 3 (by omega)), World.cell?_setCell_other _ _ _ _ (ne 4 3 (by omega))]
    obtain ⟨v, hv⟩ := set_has _ ⟨b, o + 2, none⟩ _ ev (set_has _ ⟨b, o + 1, none⟩ _ rv (set_has _ ⟨b, o, none⟩ _ (.int .i64 x.no) h3)); exact World.cell?_setCell_same _ _ _ hv
  · rw [World.cell?_setCell_other _ _ _ _ (ne 5 4 (by omega))]
    obtain ⟨v, hv⟩ := set_has _ ⟨b, o + 3, none⟩ _ (.int .i64 x.net) (set_has _ ⟨b, o + 2, none⟩ _ ev (set_has _ ⟨b, o + 1, none⟩ _ rv (set_has _ ⟨b, o, none⟩ _ (.int .i64 x.no) h4))); exact World.cell?_setCell_same _ _ _ hv
  · obtain ⟨v, hv⟩ := set_has _ ⟨b, o + 4, none⟩ _ (.int .i64 x.tax) (set_has _ ⟨b, o + 3, none⟩ _ (.int .i64 x.net) (set_has _ ⟨b, o + 2, none⟩ _ ev (set_has _ ⟨b, o + 1, none⟩ _ rv (set_has _ ⟨b, o, none⟩ _ (.int .i64 x.no) h5)))); exact World.cell?_setCell_same _ _ _ hv

/-- block b, of the call's own, has room for n invoices and holds the first ones, l -/
def IP (W : World) (b n : Nat) (l : List I) : Prop :=
  b < W.heap.size ∧ (∀ j, W.frozen? ⟨b, j, none⟩ = false) ∧ (∀ j, j < n * 6 → ∃ v, W.cell? ⟨b, j, none⟩ = some v) ∧ ∀ i, i < l.length → ∃ rv ev, I6 W b (i * 6) (l.getD i I0) rv ev ∧ RN (b + 1) W rv (l.getD i I0).rows ∧ EN (b + 1) W ev (l.getD i I0).evs
theorem IP.kept {W W' : World} {b n : Nat} {l : List I} (h : IP W b n l) (hb : Below W.heap.size W W') : IP W' b n l :=
  ⟨Nat.lt_of_lt_of_le h.1 hb.size, fun j => (hb.frozen (p := ⟨b, j, none⟩) h.1).trans (h.2.1 j), fun j hj => by
    obtain ⟨v, hv⟩ := h.2.2.1 j hj
    exact ⟨v, (hb.cell (p := ⟨b, j, none⟩) h.1).trans hv⟩, fun i hi => by
    obtain ⟨rv, ev, h6, hr, he⟩ := h.2.2.2 i hi
    exact ⟨rv, ev, h6.kept h.1 hb, hr.kept hb, he.kept hb⟩⟩
theorem IP.more {W : World} {b n : Nat} {l : List I} (h : IP W b n l) {k : Nat} (hk : k = l.length) (hn : k < n) (x : I) {rv ev : Value} (hr : RN (b + 1) W rv x.rows) (he : EN (b + 1) W ev x.evs) : IP (set6 W b (k * 6) x rv ev) b n (l ++ [x]) := by
  subst hk
  refine ⟨by simpa using h.1, fun j => by simpa [World.frozen?_setCell] using h.2.1 j, fun j hj => ?_, fun i hi => ?_⟩
  · exact set_has _ _ _ _ (set_has _ _ _ _ (set_has _ _ _ _ (set_has _ _ _ _ (set_has _ _ _ _ (set_has _ _ _ _ (h.2.2.1 j hj))))))
  · have low : ∀ {v : Value} {l : List R}, RN (b + 1) W v l → RN (b + 1) (set6 W b (l.length * 6) x rv ev) v l := fun h => rn_low (rn_low (rn_low (rn_low (rn_low (rn_low h (by omega)) (by omega)) (by omega)) (by omega)) (by omega)) (by omega)
    by_cases e : i = l.length
    · subst e
      have e1 : (l ++ [x]).getD l.length I0 = x := by simp [List.getD]
      rw [e1]
      refine ⟨rv, ev, set6_same _ _ _ _ _ _ (fun j hj => h.2.2.1 _ (by omega)), ?_, ?_⟩
      · exact rn_low (rn_low (rn_low (rn_low (rn_low (rn_low hr (by omega)) (by omega)) (by omega)) (by omega)) (by omega)) (by omega)
      · exact en_low (en_low (en_low (en_low (en_low (en_low he (by omega)) (by omega)) (by omega)) (by omega)) (by omega)) (by omega)
    · have hi' : i < l.length := by simp at hi; omega
      have e1 : (l ++ [x]).getD i I0 = l.getD i I0 := by simp [List.getD, List.getElem?_append_left hi']
      rw [e1]
      obtain ⟨rv', ev', ⟨g0, g1, g2, g3, g4, g5⟩, hr', he'⟩ := h.2.2.2 i hi'
      refine ⟨rv', ev', ⟨?_, ?_, ?_, ?_, ?_, ?_⟩, rn_low (rn_low (rn_low (rn_low (rn_low (rn_low hr' (by omega)) (by omega)) (by omega)) (by omega)) (by omega)) (by omega), en_low (en_low (en_low (en_low (en_low (en_low he' (by omega)) (by omega)) (by omega)) (by omega)) (by omega)) (by omega)⟩
      · rw [set6_other _ _ _ _ _ _ _ (by simp only; omega)]; exact g0
      · rw [set6_other _ _ _ _ _ _ _ (by simp only; omega)]; exact g1
      · rw [set6_other _ _ _ _ _ _ _ (by simp only; omega)]; exact g2
      · rw [set6_other _ _ _ _ _ _ _ (by simp only; omega)]; exact g3
      · rw [set6_other _ _ _ _ _ _ _ (by simp only; omega)]; exact g4
      · rw [set6_other _ _ _ _ _ _ _ (by simp only; omega)]; exact g5
theorem IP.ir {W : World} {b n : Nat} {l : List I} (h : IP W b n l) (c : Nat) : IR W (.slice (some ⟨b, 0, none⟩) l.length c) l :=
  .inr ⟨b, 0, c, rfl, h.1, fun i hi => by
    obtain ⟨rv, ev, h6, hr, he⟩ := h.2.2.2 i hi
    exact ⟨rv, ev, by rw [Nat.zero_add]; exact h6, hr.er, he.er⟩⟩

abbrev zeroI : Array Value := #[.int .i64 0, .slice none 0 0, .slice none 0 0, .int .i64 0, .int .i64 0, .int .i64 0]
theorem infoI : (Tryz.prog.info? 67).map (fun i => (i.zero, i.size, i.bytes)) = some (some (.agg zeroI), 6, 80) := by kernel_rfl

theorem makeI (n : Nat) (hn : n ≤ 1048576) (w : World) : (Instr.makeSlice 40 (.int .i64 (n : Int)) (.int .i64 (n : Int))).run Tryz.prog w = .ok (.slice (some ⟨w.heap.size, 0, none⟩) n n) (w.alloc (.cells (madeCells zeroI (n * 6)) 67)) := by
  obtain ⟨i, hi, h2⟩ := Option.map_eq_some_iff.1 infoI
  simp only [Prod.mk.injEq] at h2
  obtain ⟨hz, hs, hb⟩ := h2
  have := run_make (P := Tryz.prog) w 40 67 i _ Tryz.underlying40 hi hz .i64 .i64 n n (by omega) (by omega) (by rw [hb]; omega) (by omega)
  have e : (Value.agg zeroI).cells = zeroI := rfl
  rw [hs, e] at this
  simpa using this

theorem IP.made (w : World) (n : Nat) (t : TypeId) : IP (w.alloc (.cells (madeCells zeroI (n * 6)) t)) w.heap.size n [] := by
  have e1 := (MapKept.heap_alloc w (.cells (madeCells zeroI (n * 6)) t)).1
  refine ⟨by simp, fun j => ?_, fun j hj => ?_, fun i hi => by simp at hi⟩
  · simp only [World.frozen?]
    rw [e1]; simp
  · simp only [World.cell?]
    rw [e1]
    simp [madeCells, hj]

theorem rn_kept {B : Nat} {W W' : World} {v : Value} {l : List R} (h : RN B W v l) (hs : ∀ b, B ≤ b → b < W.heap.size → W'.heap[b]? = W.heap[b]?) (hz : W.heap.size ≤ W'.heap.size) : RN B W' v l := by
  rcases h with h | ⟨g, cap, rfl, ⟨h1, h2⟩, ⟨h3, h4⟩, h5⟩
  · exact .inl h
  · have e := hs g h1 h3
    exact .inr ⟨g, cap, rfl, ⟨h1, h2⟩, ⟨by omega, fun i hi => ⟨(World.cell?_of_block (w := W) e).trans (h4 i hi).1, (World.cell?_of_block (w := W) e).trans (h4 i hi).2.1, (World.cell?_of_block (w := W) e).trans (h4 i hi).2.2⟩⟩, fun j => (World.frozen?_of_block (w := W) e).trans (h5 j)⟩
theorem en_kept {B : Nat} {W W' : World} {v : Value} {l : List E} (h : EN B W v l) (hs : ∀ b, B ≤ b → b < W.heap.size → W'.heap[b]? = W.heap[b]?) (hz : W.heap.size ≤ W'.heap.size) : EN B W' v l := by
  rcases h with h | ⟨g, cap, rfl, ⟨h1, h2⟩, ⟨h3, h4⟩, h5⟩
  · exact .inl h
  · have e := hs g h1 h3
    exact .inr ⟨g, cap, rfl, ⟨h1, h2⟩, ⟨by omega, fun i hi => ⟨(World.cell?_of_block (w := W) e).trans (h4 i hi).1, (World.cell?_of_block (w := W) e).trans (h4 i hi).2.1, (World.cell?_of_block (w := W) e).trans (h4 i hi).2.2⟩⟩, fun j => (World.frozen?_of_block (w := W) e).trans (h5 j)⟩
theorem rn_slice {B : Nat} {W : World} {v : Value} {l : List R} (h : RN B W v l) : ∃ a c, v = .slice a l.length c := h.er.slice
theorem en_slice {B : Nat} {W : World} {v : Value} {l : List E} (h : EN B W v l) : ∃ a c, v = .slice a l.length c := h.er.slice

set_option maxHeartbeats 1600000 in
theorem toInv (x : I) (rv ev : Value) (w : World) (h : IW w rv ev x) (hf : FewI x) :
    Calls Tryz.prog 80 #[iV x rv ev] w fun e w' => ∃ rv' ev', e = .returned (iV x rv' ev') ∧ RN w.heap.size w' rv' x.rows ∧ EN w.heap.size w' ev' x.evs ∧ Below w.heap.size w w' := by
  have HW := hide h
  have HF := hide hf
  clear h hf
  obtain ⟨no, rows, evs, net, tax, credit⟩ := x
  go_enter Tryz.func80, Tryz.ntmps80
  go_wp2_with (fail)
  refine (BRow.toRows rv rows _ ((unhide HW).1.kept (Boxes.below3 _ _ _ _)) (unhide HF).1).mono ?_
  rintro x w1 ⟨rv', rfl, hr', hb1⟩
  obtain ⟨a1, a2, a3, hB, hz⟩ := Boxes.box3 hb1
  have HE := hide ((unhide HW).2.kept hB)
  have HR : Hid (RN (w.heap.size + 3) w1 rv' rows) := hide (hr'.low (by simp))
  obtain ⟨ra, rc, rfl⟩ := rn_slice hr'
  have HB := hide hB
  have A2 := hide a2
  have A3 := hide a3
  have c2 := (a1 2 _ rfl).1
  have c3 := (a1 3 _ rfl).1
  have c4 := (a1 4 _ rfl).1
  have c5 := (a1 5 _ rfl).1
  have A1 := hide a1
  obtain ⟨o1, f1⟩ := a3 1 _ rfl
  clear hb1 hB hr' a1 a2 a3
  go_wp2_with (fail)
  refine (Evs.toEvs ev evs _ ((unhide HW).2.kept ((unhide HB).setCell (p := ⟨w.heap.size + 1 + 1, 1, none⟩) (by simp; omega) _)) (unhide HF).2).mono ?_
  rintro x w2 ⟨ev', rfl, he', hb2⟩
  have HB2 : Hid (Below w.heap.size w w2) := hide (((unhide HB).setCell (p := ⟨w.heap.size + 1 + 1, 1, none⟩) (by simp; omega) _).trans (hb2.mono (by simp; omega)))
  have hz2 : w.heap.size + 3 ≤ w2.heap.size := by have := hb2.size; simp at this; omega
  have HR2 : Hid (RN (w.heap.size + 3) w2 (.slice ra rows.length rc) rows) := hide (rn_kept (rn_low (unhide HR) (by omega)) (fun b h1 h2 => hb2.block b h2) hb2.size)
  have HE2 : Hid (EN (w.heap.size + 3) w2 ev' evs) := hide (he'.low (by simp; omega))
  have a1 := (Boxes.At.other (unhide A1) (g := w.heap.size + 1 + 1) (k := 1) (.slice ra rows.length rc) (by omega)).below hb2 (by simp; omega)
  have a2 := (Boxes.At.other (unhide A2) (g := w.heap.size + 1 + 1) (k := 1) (.slice ra rows.length rc) (by omega)).below hb2 (by simp; omega)
  have a3 := (Boxes.At.set (unhide A3) 1 (.slice ra rows.length rc)).below hb2 (by simp; omega)
  obtain ⟨ea, ec, rfl⟩ := en_slice he'
  clear c2 c3 c4 c5 o1 f1 hb2 he' HB HR HE A1 A2 A3 HW HF
  have c3 := (a1 3 _ rfl).1
  have c4 := (a1 4 _ rfl).1
  have c5 := (a1 5 _ rfl).1
  obtain ⟨o0, f0⟩ := a3 0 _ rfl
  obtain ⟨o1, f1⟩ := a3 1 _ rfl
  obtain ⟨o2, f2⟩ := a3 2 _ rfl
  obtain ⟨o3, f3⟩ := a3 3 _ rfl
  obtain ⟨o4, f4⟩ := a3 4 _ rfl
  obtain ⟨o5, f5⟩ := a3 5 _ rfl
  obtain ⟨p0, q0⟩ := a2 0 _ rfl
  obtain ⟨p1, q1⟩ := a2 1 _ rfl
  obtain ⟨p2, q2⟩ := a2 2 _ rfl
  obtain ⟨p3, q3⟩ := a2 3 _ rfl
  obtain ⟨p4, q4⟩ := a2 4 _ rfl
  obtain ⟨p5, q5⟩ := a2 5 _ rfl
  clear a1 a2 a3
  go_wp2_with (fail)
  refine bodyPost_ret (v := .agg #[.int .i64 no, .slice ra rows.length rc, .slice ea evs.length ec, .int .i64 net, .int .i64 tax, .int .i64 credit]) (by simp [results, Tryz.results80, go_sem, p0, p1, p2, p3, p4, p5]) rfl ⟨_, _, rfl, ?_, ?_, ?_⟩
  · refine RN.low (B := w.heap.size + 3) ?_ (by omega)
    iterate 10 refine rn_low ?_ (by omega)
    exact unhide HR2
  · refine EN.low (B := w.heap.size + 3) ?_ (by omega)
    iterate 10 refine en_low ?_ (by omega)
    exact unhide HE2
  · iterate 10 refine Below.setCell ?_ (by simp; try omega) _
    exact unhide HB2

/-- the slice v holds the invoices l in blocks of its own, none below B -/
def IN (B : Nat) (W : World) (v : Value) (l : List I) : Prop :=
  (l = [] ∧ ∃ a c, v = .slice a 0 c) ∨ ∃ b n cap, v = .slice (some ⟨b, 0, none⟩) l.length cap ∧ B ≤ b ∧ IP W b n l
theorem IN.ir {B : Nat} {W : World} {v : Value} {l : List I} (h : IN B W v l) : IR W v l := by
  rcases h with h | ⟨b, n, cap, rfl, _, hc⟩
  · exact .inl h
  · exact hc.ir cap
theorem IN.low {B B' : Nat} {W : World} {v : Value} {l : List I} (h : IN B W v l) (hb : B' ≤ B) : IN B' W v l := by
  rcases h with h | ⟨b, n, cap, rfl, h1, hc⟩
  · exact .inl h
  · exact .inr ⟨b, n, cap, rfl, by omega, hc⟩
theorem IP.off {W : World} {b n g o : Nat} {l : List I} (h : IP W b n l) (u : Value) (hg : g < b) : IP (W.setCell ⟨g, o, none⟩ u) b n l := by
  have e : ∀ j, (W.setCell ⟨g, o, none⟩ u).cell? ⟨b, j, none⟩ = W.cell? ⟨b, j, none⟩ := fun j => World.cell?_setCell_other _ _ _ _ (by intro he; simp only [Addr.mk.injEq] at he; omega)
  refine ⟨by simpa using h.1, fun j => by simpa [World.frozen?_setCell] using h.2.1 j, fun j hj => by rw [e]; exact h.2.2.1 j hj, fun i hi => ?_⟩
  obtain ⟨rv, ev, ⟨g0, g1, g2, g3, g4, g5⟩, hr, he⟩ := h.2.2.2 i hi
  exact ⟨rv, ev, ⟨(e _).trans g0, (e _).trans g1, (e _).trans g2, (e _).trans g3, (e _).trans g4, (e _).trans g5⟩, rn_low hr (by omega), en_low he (by omega)⟩
theorem in_low {B b o : Nat} {W : World} {v u : Value} {l : List I} (h : IN B W v l) (hb : b < B) : IN B (W.setCell ⟨b, o, none⟩ u) v l := by
  rcases h with h | ⟨g, n, cap, rfl, h1, hc⟩
  · exact .inl h
  · exact .inr ⟨g, n, cap, rfl, h1, hc.off u (by omega)⟩
theorem in_slice {B : Nat} {W : World} {v : Value} {l : List I} (h : IN B W v l) : ∃ a c, v = .slice a l.length c := h.ir.slice

set_option maxHeartbeats 800000 in
theorem toInvs (v : Value) (l : List I) (w : World) (h : IR w v l) (hf : FewIs l) :
    Calls Tryz.prog 38 #[v] w fun e w' => ∃ v', e = .returned v' ∧ IN w.heap.size w' v' l ∧ Below w.heap.size w w' := by
  obtain ⟨hl, hf⟩ := hf
  have HF := hide hf
  clear hf
  have hmk := makeI l.length hl
  rcases h with ⟨rfl, a, c, rfl⟩ | ⟨b, o, cap, rfl, h2⟩
  · clear hmk hl
    have hmk0 : ∀ w : World, (Instr.makeSlice 40 (.int .i64 0) (.int .i64 0)).run Tryz.prog w = .ok (.slice (some ⟨w.heap.size, 0, none⟩) 0 0) (w.alloc (.cells #[] 67)) := fun w => by kernel_rfl
    go_enter Tryz.func38, Tryz.ntmps38
    go_wp2
    refine wp_loop_rounds 1 ?_
    rw [rounds_succ]
    go_wp2
    go_ret
    exact ⟨_, rfl, .inl ⟨rfl, _, _, rfl⟩, (Below.refl _ _).alloc (Nat.le_refl _) _⟩
  · have H3 := hide h2; clear h2
    have hbs := (unhide H3).1
    go_enter Tryz.func38, Tryz.ntmps38
    go_wp2
    go_loopw [4] (fun i wr => ∃ k : Nat, k ≤ l.length ∧ i = .int .i64 k ∧ Hid (IP wr w.heap.size l.length (l.take k)) ∧ Below w.heap.size w wr) (fun i _ => l.length - (intOf i).toNat)
    case atStart => exact ⟨0, Nat.zero_le _, rfl, by show IP _ _ _ _; simpa using IP.made w l.length _, (Below.refl _ _).alloc (Nat.le_refl _) _⟩
    case round =>
      obtain ⟨k, hk, rfl, hd, hb⟩ := hrel
      by_cases hlt : k < l.length
      · obtain ⟨rv, ev, ⟨c0, c1, c2, c3, c4, c5⟩, hw⟩ := ((unhide H3).kept hb).2 k hlt
        have HW := hide hw
        have HFk : Hid (FewI (l.getD k I0)) := hide (unhide HF _ (by simp [List.getD, hlt]))
        have HM : Hid (∀ w1 rv' ev', IP w1 w.heap.size l.length (l.take k) → RN (w.heap.size + 1) w1 rv' (l.getD k I0).rows → EN (w.heap.size + 1) w1 ev' (l.getD k I0).evs → IP (set6 w1 w.heap.size (k * 6) (l.getD k I0) rv' ev') w.heap.size l.length (l.take (k + 1))) := hide (fun w1 rv' ev' h1 h2 h3 => by
          have e : l.take (k + 1) = l.take k ++ [l.getD k I0] := by rw [List.take_add_one, List.getElem?_eq_getElem hlt]; simp [List.getD, hlt]
          rw [e]
          exact h1.more (by simp; omega) hlt _ h2 h3)
        have HK : Hid (∀ w1, Below wr.heap.size wr w1 → IP w1 w.heap.size l.length (l.take k)) := hide (fun w1 h1 => (unhide hd).kept h1)
        have hws : w.heap.size < wr.heap.size := (unhide hd).1
        have HB := hide hb
        clear hb hd hw
        generalize l.getD k I0 = x at *
        obtain ⟨no, rows, evs, net, tax, credit⟩ := x
        go_wp2_with (fail)
        refine (toInv ⟨no, rows, evs, net, tax, credit⟩ rv ev wr (unhide HW) (unhide HFk)).mono ?_
        rintro e w1 ⟨rv', ev', rfl, hr', he', hb1⟩
        have hip := unhide HK w1 hb1
        have HX := hide (unhide HM w1 rv' ev' hip (hr'.low (by omega)) (he'.low (by omega)))
        obtain ⟨_, hfz, hcs, _⟩ := hip
        obtain ⟨d0, e0⟩ := hcs (k * 6) (by omega)
        obtain ⟨d1, e1⟩ := hcs (k * 6 + 1) (by omega)
        obtain ⟨d2, e2⟩ := hcs (k * 6 + 2) (by omega)
        obtain ⟨d3, e3⟩ := hcs (k * 6 + 3) (by omega)
        obtain ⟨d4, e4⟩ := hcs (k * 6 + 4) (by omega)
        obtain ⟨d5, e5⟩ := hcs (k * 6 + 5) (by omega)
        have f0 := hfz (k * 6)
        have f1 := hfz (k * 6 + 1)
        have f2 := hfz (k * 6 + 2)
        have f3 := hfz (k * 6 + 3)
        have f4 := hfz (k * 6 + 4)
        have f5 := hfz (k * 6 + 5)
        obtain ⟨ra, rc, rfl⟩ := rn_slice hr'
        obtain ⟨ea, ec, rfl⟩ := en_slice he'
        have HB1 : Hid (Below w.heap.size w w1) := hide (below_trans (unhide HB) hb1)
        clear hb1 HB hcs hfz HK HM hr' he'
        simp only at HX
        go_wp2
        exact ⟨⟨k + 1, by omega, by go_num, HX, (((((((unhide HB1).setCell (Nat.le_refl _) _).setCell (Nat.le_refl _) _).setCell (Nat.le_refl _) _).setCell (Nat.le_refl _) _).setCell (Nat.le_refl _) _).setCell (Nat.le_refl _) _)⟩, by simp [intOf]; omega⟩
      · obtain rfl : k = l.length := by omega
        go_wp2
        go_ret
        refine ⟨_, rfl, ?_, hb⟩
        have := unhide hd
        rw [List.take_length] at this
        exact .inr ⟨w.heap.size, l.length, _, rfl, Nat.le_refl _, this⟩
end Go.Proofs.YtkdaljonmkfdaaaGreatDoor.Bills
end

section
/-
  Bills: the copy; invoices and bills compared with what they were.
-/
namespace Go.Proofs.YtkdaljonmkfdaaaGreatDoor.Bills
set_option linter.unusedVariables false
open Go.RowKit
open Evs (E E0 ER EN EC EOwn)
open BRow (R R0 RR RN RC ROwn)

set_option maxHeartbeats 1600000 in
theorem toBill (v : Value) (x : B) (w : World) (h : BV w v x) (hf : FewB x) :
    Calls Tryz.prog 13 #[v] w fun e w' => ∃ v', e = .returned v' ∧ BV w' v' x ∧ Below w.heap.size w w' := by
  obtain ⟨tv, ev, iv, rfl, ht, he, hi⟩ := h
  have HT := hide ht
  have HE := hide he
  have HI := hide hi
  have HF := hide hf
  clear ht he hi hf
  obtain ⟨tar, evs, invs, paid⟩ := x
  simp only at HT HE HI
  go_enter Tryz.func13, Tryz.ntmps13
  go_wp2_with (fail)
  refine (Evs.toLins tv tar _ ((unhide HT).kept (Boxes.below3 _ _ _ _)) (unhide HF).1).mono ?_
  rintro x w1 ⟨tv', rfl, ht', hb1⟩
  obtain ⟨a1, a2, a3, hB, hz⟩ := Boxes.box3 hb1
  have HT1 : Hid (EN (w.heap.size + 3) w1 tv' tar) := hide (ht'.low (by simp))
  obtain ⟨ta, tc, rfl⟩ := en_slice ht'
  have HB := hide hB
  have A2 := hide a2
  have A3 := hide a3
  have c1 := (a1 1 _ rfl).1
  have A1 := hide a1
  obtain ⟨o0, f0⟩ := a3 0 _ rfl
  clear hb1 hB ht' a1 a2 a3 HT
  go_wp2_with (fail)
  refine (Evs.toEvs ev evs _ ((unhide HE).kept ((unhide HB).setCell (p := ⟨w.heap.size + 1 + 1, 0, none⟩) (by simp; omega) _)) (unhide HF).2.1).mono ?_
  rintro x w2 ⟨ev', rfl, he', hb2⟩
  have HB2 : Hid (Below w.heap.size w w2) := hide (((unhide HB).setCell (p := ⟨w.heap.size + 1 + 1, 0, none⟩) (by simp; omega) _).trans (hb2.mono (by simp; omega)))
  have hz2 : w.heap.size + 3 ≤ w2.heap.size := by have := hb2.size; simp at this; omega
  have HT2 : Hid (EN (w.heap.size + 3) w2 (.slice ta tar.length tc) tar) := hide ((en_low (unhide HT1) (by omega)).kept hb2)
  have HE2 : Hid (EN (w.heap.size + 3) w2 ev' evs) := hide (he'.low (by simp; omega))
  have a1 := (Boxes.At.other (unhide A1) (g := w.heap.size + 1 + 1) (k := 0) (.slice ta tar.length tc) (by omega)).below hb2 (by simp; omega)
  have a2 := (Boxes.At.other (unhide A2) (g := w.heap.size + 1 + 1) (k := 0) (.slice ta tar.length tc) (by omega)).below hb2 (by simp; omega)
  have a3 := (Boxes.At.set (unhide A3) 0 (.slice ta tar.length tc)).below hb2 (by simp; omega)
  obtain ⟨ea, ec, rfl⟩ := en_slice he'
  clear c1 o0 f0 hb2 he' HB HT1 A1 A2 A3 HE
  have A1 := hide a1
  have A2 := hide a2
  have A3 := hide a3
  have c2 := (a1 2 _ rfl).1
  obtain ⟨o1, f1⟩ := a3 1 _ rfl
  clear a1 a2 a3
  go_wp2_with (fail)
  refine (toInvs iv invs _ ((unhide HI).kept ((unhide HB2).setCell (p := ⟨w.heap.size + 1 + 1, 1, none⟩) (by simp; omega) _)) (unhide HF).2.2).mono ?_
  rintro x w3 ⟨iv', rfl, hi', hb3⟩
  have HB3 : Hid (Below w.heap.size w w3) := hide (((unhide HB2).setCell (p := ⟨w.heap.size + 1 + 1, 1, none⟩) (by simp; omega) _).trans (hb3.mono (by simp; omega)))
  have hz3 : w.heap.size + 3 ≤ w3.heap.size := by have := hb3.size; simp at this; omega
  have HT3 : Hid (EN (w.heap.size + 3) w3 (.slice ta tar.length tc) tar) := hide ((en_low (unhide HT2) (by omega)).kept hb3)
  have HE3 : Hid (EN (w.heap.size + 3) w3 (.slice ea evs.length ec) evs) := hide ((en_low (unhide HE2) (by omega)).kept hb3)
  have HI3 : Hid (IN (w.heap.size + 3) w3 iv' invs) := hide (hi'.low (by simp; omega))
  have a1 := (Boxes.At.other (unhide A1) (g := w.heap.size + 1 + 1) (k := 1) (.slice ea evs.length ec) (by omega)).below hb3 (by simp; omega)
  have a2 := (Boxes.At.other (unhide A2) (g := w.heap.size + 1 + 1) (k := 1) (.slice ea evs.length ec) (by omega)).below hb3 (by simp; omega)
  have a3 := (Boxes.At.set (unhide A3) 1 (.slice ea evs.length ec)).below hb3 (by simp; omega)
  obtain ⟨ia, ic, rfl⟩ := in_slice hi'
  clear c2 o1 f1 hb3 hi' HB2 HT2 HE2 A1 A2 A3 HI HF
  have c3 := (a1 3 _ rfl).1
  obtain ⟨o0, f0⟩ := a3 0 _ rfl
  obtain ⟨o1, f1⟩ := a3 1 _ rfl
  obtain ⟨o2, f2⟩ := a3 2 _ rfl
  obtain ⟨o3, f3⟩ := a3 3 _ rfl
  obtain ⟨p0, q0⟩ := a2 0 _ rfl
  obtain ⟨p1, q1⟩ := a2 1 _ rfl
  obtain ⟨p2, q2⟩ := a2 2 _ rfl
  obtain ⟨p3, q3⟩ := a2 3 _ rfl
  clear a1 a2 a3
  go_wp2_with (fail)
  refine bodyPost_ret (v := .agg #[.slice ta tar.length tc, .slice ea evs.length ec, .slice ia invs.length ic, .int .i64 paid]) (by simp [results, Tryz.results13, go_sem, p0, p1, p2, p3]) rfl ⟨_, rfl, ⟨_, _, _, rfl, ?_, ?_, ?_⟩, ?_⟩
  · refine EN.er (B := w.heap.size + 3) ?_
    iterate 6 refine en_low ?_ (by omega)
    exact unhide HT3
  · refine EN.er (B := w.heap.size + 3) ?_
    iterate 6 refine en_low ?_ (by omega)
    exact unhide HE3
  · refine IN.ir (B := w.heap.size + 3) ?_
    iterate 6 refine in_low ?_ (by omega)
    exact unhide HI3
  · iterate 6 refine Below.setCell ?_ (by simp; try omega) _
    exact unhide HB3

/-! ### compared with what they were -/
set_option maxHeartbeats 1600000 in
theorem eqInv (x : I) (rv ev rv' ev' : Value) (w : World) (h : IW w rv ev x) (h' : IW w rv' ev' x) (hf : FewI x) :
    Calls Tryz.prog 93 #[iV x rv ev, iV x rv' ev'] w fun e w' => e = .returned (.bool true) ∧ Below w.heap.size w w' := by
  have HW := hide h
  have HW' := hide h'
  have HF := hide hf
  clear h h' hf
  obtain ⟨no, rows, evs, net, tax, credit⟩ := x
  have n1 : (no != no) = false := by simp
  have n2 : (net != net) = false := by simp
  have n3 : (tax != tax) = false := by simp
  have n4 : (credit != credit) = false := by simp
  go_enter Tryz.func93, Tryz.ntmps93
  go_wp2_with (fail)
  refine (BRow.eqRows rv rv' rows _ ((unhide HW).1.kept (((Below.refl _ _).alloc (Nat.le_refl _) _).alloc (by simp) _)) ((unhide HW').1.kept (((Below.refl _ _).alloc (Nat.le_refl _) _).alloc (by simp) _)) (unhide HF).1).mono ?_
  rintro x w1 ⟨rfl, hb1⟩
  obtain ⟨a1, a2, hB, hz⟩ := Boxes.box2 hb1
  have HE := hide ((unhide HW).2.kept hB)
  have HE' := hide ((unhide HW').2.kept hB)
  have HB := hide hB
  have c2 := (a1 2 _ rfl).1
  have d2 := (a2 2 _ rfl).1
  have A1 := hide a1
  have A2 := hide a2
  clear hb1 hB a1 a2 HW HW'
  go_wp2_with (fail)
  refine (Evs.eqEvs ev ev' evs _ (unhide HE) (unhide HE') (unhide HF).2).mono ?_
  rintro x w2 ⟨rfl, hb2⟩
  have HB2 := hide (below_trans (unhide HB) hb2)
  have a1 := (unhide A1).below hb2 (by omega)
  have a2 := (unhide A2).below hb2 (by omega)
  clear c2 d2 hb2 HB A1 A2 HE HE'
  have c3 := (a1 3 _ rfl).1
  have c4 := (a1 4 _ rfl).1
  have c5 := (a1 5 _ rfl).1
  have d3 := (a2 3 _ rfl).1
  have d4 := (a2 4 _ rfl).1
  have d5 := (a2 5 _ rfl).1
  clear a1 a2
  go_wp2_with (fail)
  go_ret
  exact ⟨rfl, unhide HB2⟩

theorem below_of_drew {B : Nat} {a w : World} (h : Below B a.drew w) : Below B a w := ⟨h.os, h.tape, h.output, h.size, h.block⟩
theorem IW.drew {W : World} {rv ev : Value} {x : I} (h : IW W rv ev x) : IW W.drew rv ev x := h.kept ⟨rfl, rfl, rfl, Nat.le_refl _, fun _ _ => rfl⟩

set_option maxHeartbeats 1600000 in
theorem eqInvs (v v' : Value) (l : List I) (w : World) (h : IR w v l) (h' : IR w v' l) (hf : FewIs l) :
    Calls Tryz.prog 47 #[v, v'] w fun e w' => e = .returned (.bool true) ∧ Below w.heap.size w w' := by
  obtain ⟨hl, hf⟩ := hf
  have HF := hide hf
  clear hf
  have hn : (((l.length : Int)) != (l.length : Int)) = false := by simp
  by_cases h0 : l.length = 0
  · obtain rfl : l = [] := List.length_eq_zero_iff.1 h0
    obtain ⟨a, c, rfl⟩ := h.slice
    obtain ⟨a', c', rfl⟩ := h'.slice
    clear h h' h0 hl hn
    go_enter Tryz.func47, Tryz.ntmps47
    go_wp2
    refine wp_loop_rounds 1 ?_
    rw [rounds_succ]
    go_wp2
    go_ret
    exact ⟨rfl, Below.refl _ _⟩
  · rcases h with ⟨rfl, _⟩ | ⟨b, o, cap, rfl, hc⟩
    · simp at h0
    rcases h' with ⟨rfl, _⟩ | ⟨b', o', cap', rfl, hc'⟩
    · simp at h0
    have HC := hide hc; have HC' := hide hc'
    have hbs := hc.1
    have hbs' := hc'.1
    clear hc hc' h0
    go_enter Tryz.func47, Tryz.ntmps47
    go_wp2
    go_loopw [5] (fun i wr => ∃ k : Nat, k ≤ l.length ∧ i = .int .i64 k ∧ Hid (Below w.heap.size w wr)) (fun i _ => l.length - (intOf i).toNat)
    case atStart => exact ⟨0, Nat.zero_le _, rfl, hide (Below.refl _ _)⟩
    case round =>
      obtain ⟨k, hk, rfl, hb⟩ := hrel
      by_cases hlt : k < l.length
      · obtain ⟨rv, ev, ⟨c0, c1, c2, c3, c4, c5⟩, hw⟩ := ((unhide HC).kept (unhide hb)).2 k hlt
        obtain ⟨rv', ev', ⟨d0, d1, d2, d3, d4, d5⟩, hw'⟩ := ((unhide HC').kept (unhide hb)).2 k hlt
        have i1 : (0 : Int) ≤ (k : Int) := by omega
        have i2 : (k : Int) < (l.length : Int) := by omega
        have z1 : b < wr.heap.size := Nat.lt_of_lt_of_le hbs (unhide hb).size
        have z2 : b' < wr.heap.size := Nat.lt_of_lt_of_le hbs' (unhide hb).size
        have HW := hide hw.drew
        have HW' := hide hw'.drew
        have HFk : Hid (FewI (l.getD k I0)) := hide (unhide HF _ (by simp [List.getD, hlt]))
        clear hw hw'
        generalize l.getD k I0 = x at *
        obtain ⟨no, rows, evs, net, tax, credit⟩ := x
        simp only at c0 c3 c4 c5 d0 d3 d4 d5
        go_wp2
        go_region_held3 (fun w2 => w2.cell? ⟨b, o + k * 6, none⟩ = some (.int .i64 no) ∧ w2.cell? ⟨b, o + k * 6 + 1, none⟩ = some rv ∧ w2.cell? ⟨b, o + k * 6 + 2, none⟩ = some ev ∧ w2.cell? ⟨b, o + k * 6 + 3, none⟩ = some (.int .i64 net) ∧ w2.cell? ⟨b, o + k * 6 + 4, none⟩ = some (.int .i64 tax) ∧ w2.cell? ⟨b, o + k * 6 + 5, none⟩ = some (.int .i64 credit) ∧ w2.cell? ⟨b', o' + k * 6, none⟩ = some (.int .i64 no) ∧ w2.cell? ⟨b', o' + k * 6 + 1, none⟩ = some rv' ∧ w2.cell? ⟨b', o' + k * 6 + 2, none⟩ = some ev' ∧ w2.cell? ⟨b', o' + k * 6 + 3, none⟩ = some (.int .i64 net) ∧ w2.cell? ⟨b', o' + k * 6 + 4, none⟩ = some (.int .i64 tax) ∧ w2.cell? ⟨b', o' + k * 6 + 5, none⟩ = some (.int .i64 credit)) (go_keep) (first | (go_at_call 93; refine (eqInv ⟨no, rows, evs, net, tax, credit⟩ rv ev rv' ev' _ (unhide HW) (unhide HW') (unhide HFk)).mono ?_; rintro e w1 ⟨rfl, hb1⟩; have q0 := hb1.cell (p := ⟨b, o + k * 6, none⟩) z1; have r0 := hb1.cell (p := ⟨b', o' + k * 6, none⟩) z2; have q1 := hb1.cell (p := ⟨b, o + k * 6 + 1, none⟩) z1; have r1 := hb1.cell (p := ⟨b', o' + k * 6 + 1, none⟩) z2; have q2 := hb1.cell (p := ⟨b, o + k * 6 + 2, none⟩) z1; have r2 := hb1.cell (p := ⟨b', o' + k * 6 + 2, none⟩) z2; have q3 := hb1.cell (p := ⟨b, o + k * 6 + 3, none⟩) z1; have r3 := hb1.cell (p := ⟨b', o' + k * 6 + 3, none⟩) z2; have q4 := hb1.cell (p := ⟨b, o + k * 6 + 4, none⟩) z1; have r4 := hb1.cell (p := ⟨b', o' + k * 6 + 4, none⟩) z2; have q5 := hb1.cell (p := ⟨b, o + k * 6 + 5, none⟩) z1; have r5 := hb1.cell (p := ⟨b', o' + k * 6 + 5, none⟩) z2))
        have HB : Hid (Below w.heap.size w w1) := hide (below_trans (unhide hb) (below_of_drew hb1))
        clear hb1 hb q0 q1 q2 q3 q4 q5 r0 r1 r2 r3 r4 r5
        go_wp2
        exact ⟨⟨k + 1, by omega, by go_num, HB⟩, by simp [intOf]; omega⟩
      · go_wp2
        go_ret
        exact ⟨rfl, unhide hb⟩

set_option maxHeartbeats 1600000 in
theorem eqBill (v v' : Value) (x : B) (w : World) (h : BV w v x) (h' : BV w v' x) (hf : FewB x) :
    Calls Tryz.prog 15 #[v, v'] w fun e w' => e = .returned (.bool true) ∧ Below w.heap.size w w' := by
  obtain ⟨tv, ev, iv, rfl, ht, he, hi⟩ := h
  obtain ⟨tv', ev', iv', rfl, ht', he', hi'⟩ := h'
  have HT := hide ht
  have HE := hide he
  have HI := hide hi
  have HT' := hide ht'
  have HE' := hide he'
  have HI' := hide hi'
  have HF := hide hf
  clear ht he hi ht' he' hi' hf
  obtain ⟨tar, evs, invs, paid⟩ := x
  simp only at HT HE HI HT' HE' HI'
  have n1 : (paid != paid) = false := by simp
  go_enter Tryz.func15, Tryz.ntmps15
  go_wp2_with (fail)
  refine (Evs.eqLins tv tv' tar _ ((unhide HT).kept (((Below.refl _ _).alloc (Nat.le_refl _) _).alloc (by simp) _)) ((unhide HT').kept (((Below.refl _ _).alloc (Nat.le_refl _) _).alloc (by simp) _)) (unhide HF).1).mono ?_
  rintro x w1 ⟨rfl, hb1⟩
  obtain ⟨a1, a2, hB, hz⟩ := Boxes.box2 hb1
  have HB := hide hB
  have c1 := (a1 1 _ rfl).1
  have d1 := (a2 1 _ rfl).1
  have A1 := hide a1
  have A2 := hide a2
  clear hb1 hB a1 a2 HT HT'
  go_wp2_with (fail)
  refine (Evs.eqEvs ev ev' evs _ ((unhide HE).kept (unhide HB)) ((unhide HE').kept (unhide HB)) (unhide HF).2.1).mono ?_
  rintro x w2 ⟨rfl, hb2⟩
  have HB2 := hide (below_trans (unhide HB) hb2)
  have a1 := (unhide A1).below hb2 (by omega)
  have a2 := (unhide A2).below hb2 (by omega)
  have hz2 : w.heap.size + 2 ≤ w2.heap.size := Nat.le_trans hz hb2.size
  clear c1 d1 hb2 HB A1 A2 HE HE'
  have c2 := (a1 2 _ rfl).1
  have d2 := (a2 2 _ rfl).1
  have A1 := hide a1
  have A2 := hide a2
  clear a1 a2
  go_wp2_with (fail)
  refine (eqInvs iv iv' invs _ ((unhide HI).kept (unhide HB2)) ((unhide HI').kept (unhide HB2)) (unhide HF).2.2).mono ?_
  rintro x w3 ⟨rfl, hb3⟩
  have HB3 := hide (below_trans (unhide HB2) hb3)
  have a1 := (unhide A1).below hb3 (by omega)
  have a2 := (unhide A2).below hb3 (by omega)
  clear c2 d2 hb3 HB2 A1 A2 HI HI'
  have c3 := (a1 3 _ rfl).1
  have d3 := (a2 3 _ rfl).1
  clear a1 a2
  go_wp2_with (fail)
  go_ret
  exact ⟨rfl, unhide HB3⟩
end Go.Proofs.YtkdaljonmkfdaaaGreatDoor.Bills
end
