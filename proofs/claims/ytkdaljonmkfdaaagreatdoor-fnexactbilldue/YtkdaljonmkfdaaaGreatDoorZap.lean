/-
  Texts of this proof laid together, in build order; each says of itself what it holds.
-/
import Derived.Test.YtkdaljonmkfdaaaGreatDoorZaj
import Derived.Test.YtkdaljonmkfdaaaGreatDoorZao
import Derived.Test.YtkdaljonmkfdaaaGreatDoorZai
import Derived.Test.YtkdaljonmkfdaaaGreatDoorZaf
section
/-
  impl.grossOfAll, impl.BillOk.
-/
namespace Go.Proofs.YtkdaljonmkfdaaaGreatDoor.Bill
set_option linter.unusedVariables false
open Go.RowKit RegIn
open Evs (hide unhide below_trans below_drewN' ltS E ER)
open BRow (R R0 RR RC)
open Bills (I I0 IW IR IC B BV FineB FewB below_alloc)
open Rule (EnvR)

/-- what an invoice asks for, less what was credited -/
def grossX (x : I) : Int := x.net + x.tax - x.credit
def grossS (l : List I) : Int := (l.map grossX).sum
def badI (l : List I) (i : Nat) : Bool := !(decide ((l.getD i I0).no = (i : Int) + 1) && invB (l.getD i I0))
/-- whether a bill is ok -/
noncomputable def billB (x : B) : Bool := okL x.tar && Evs.okB x.evs && decide (x.invs.length ≤ 8) && ((List.range x.invs.length).all fun i => !badI x.invs i) && Coin.okB (grossS x.invs) && unitB x.paid
theorem invB_bd {x : I} (h : invB x = true) : (0 ≤ x.net ∧ x.net ≤ 6000000000000000) ∧ (0 ≤ x.tax ∧ x.tax ≤ 6000000000000000) ∧ (0 ≤ x.credit ∧ x.credit ≤ 1000000000000000) ∧ 0 ≤ grossX x ∧ grossX x ≤ 1000000000000000 := by
  unfold invB at h
  simp only [Bool.and_eq_true, decide_eq_true_eq] at h
  obtain ⟨⟨⟨⟨⟨h1, h2⟩, h3⟩, h4⟩, h5⟩, h6, h7⟩ := h
  have hb := sums_bd h1 x.rows.length
  rw [List.take_length] at hb
  have h5' := Coin.okB_iff.1 h5
  unfold grossX
  omega
theorem gross_take (l : List I) (k : Nat) (h : k < l.length) : grossS (l.take (k + 1)) = grossS (l.take k) + grossX (l.getD k I0) := by
  have e : l.take (k + 1) = l.take k ++ [l.getD k I0] := by rw [List.take_add_one, List.getElem?_eq_getElem h]; simp [List.getD, h]
  unfold grossS
  rw [e, List.map_append, List.sum_append]
  simp
theorem gross_bd (l : List I) (hl : l.length ≤ 8) (h : ∀ k, k < l.length → invB (l.getD k I0) = true) : ∀ k, k ≤ l.length → 0 ≤ grossS (l.take k) ∧ grossS (l.take k) ≤ k * 1000000000000000
  | 0, _ => by simp [grossS]
  | k + 1, hk => by
    have ih := gross_bd l hl h k (by omega)
    have hb := invB_bd (h k (by omega))
    rw [gross_take l k (by omega)]
    omega

set_option maxHeartbeats 1000000 in
/-- impl.grossOf -/
theorem grossI (x : I) (rv ev : Value) (w : World) (h : IW w rv ev x) (hk : invB x = true) : Calls Tryz.prog 90 #[.agg #[.int .i64 x.no, rv, ev, .int .i64 x.net, .int .i64 x.tax, .int .i64 x.credit]] w fun y w' => y = .returned (.int .i64 (grossX x)) ∧ Below w.heap.size w w' := by
  obtain ⟨hr, hv⟩ := h
  obtain ⟨ra, rc, rfl⟩ := hr.slice
  obtain ⟨ea, ec, rfl⟩ := hv.slice
  have hb := invB_bd hk
  unfold grossX at *
  obtain ⟨no, rows, evs, net, tax, credit⟩ := x
  simp only at *
  obtain ⟨⟨b1, b2⟩, ⟨b3, b4⟩, ⟨b5, b6⟩, b7, b8⟩ := hb
  clear hr hv hk
  go_enter Tryz.func90, Tryz.ntmps90
  go_wp2_with (fail)
  go_ret
  exact ⟨rfl, below_alloc _ _⟩

set_option maxHeartbeats 1000000 in
/-- impl.grossOfAll -/
theorem grossAllI (v : Value) (l : List I) (w : World) (h : IR w v l) (hl : l.length ≤ 8) (hk : ∀ k, k < l.length → invB (l.getD k I0) = true) : Calls Tryz.prog 43 #[v] w fun y w' => y = .returned (.int .i64 (grossS l)) ∧ Below w.heap.size w w' := by
  rcases h with ⟨rfl, a, c, rfl⟩ | ⟨b, o, cap, rfl, hc⟩
  · go_enter Tryz.func43, Tryz.ntmps43
    go_wp2
    refine wp_loop_rounds 1 ?_
    rw [rounds_succ]
    go_wp2
    go_ret
    exact ⟨rfl, Below.refl _ _⟩
  · have HC := hide hc
    have hbs := hc.1
    have HBD := hide (gross_bd l hl hk)
    have HK := hide hk
    clear hc hk
    go_enter Tryz.func43, Tryz.ntmps43
    go_wp2
    go_loopw [3, 8] (fun a i wr => ∃ k : Nat, k ≤ l.length ∧ i = .int .i64 k ∧ a = .int .i64 (grossS (l.take k)) ∧ Hid (Below w.heap.size w wr)) (fun _ i _ => l.length - (intOf i).toNat)
    case atStart => exact ⟨0, Nat.zero_le _, rfl, rfl, hide (Below.refl _ _)⟩
    case round =>
      obtain ⟨k, hk', rfl, rfl, hb⟩ := hrel
      by_cases hlt : k < l.length
      · obtain ⟨rv, ev, ⟨c0, c1, c2, c3, c4, c5⟩, hiw⟩ := ((unhide HC).kept (unhide hb)).2 k hlt
        obtain ⟨ra, rc, hrf⟩ := hiw.1.slice
        obtain ⟨ea, ec, hef⟩ := hiw.2.slice
        subst hrf hef
        have HIW : Hid (∀ ob, IW (wr.alloc ob) (.slice ra (l.getD k I0).rows.length rc) (.slice ea (l.getD k I0).evs.length ec) (l.getD k I0)) := hide (fun ob => hiw.kept (below_alloc _ _))
        have HKK := hide (unhide HK k hlt)
        have HST := hide (gross_take l k hlt)
        have hbd := unhide HBD k (by omega)
        have hgx := (invB_bd (unhide HKK)).2.2.2
        have i1 : (0 : Int) ≤ (k : Int) := by omega
        have i2 : (k : Int) < (l.length : Int) := by omega
        have hk8 : (k : Int) ≤ 8 := by omega
        have hbd2 : 0 ≤ grossS (l.take k) ∧ grossS (l.take k) ≤ 8000000000000000 := by omega
        clear hiw hbd
        generalize l.getD k I0 = x at *
        generalize grossS (l.take k) = g0 at *
        obtain ⟨d1, d2⟩ := hbd2
        go_wp2_with (fail)
        refine (grossI x _ _ _ (unhide HIW _) (unhide HKK)).mono ?_
        rintro y w2 ⟨rfl, hb2⟩
        have HB2 := hide (below_trans (below_trans (unhide hb) (below_alloc _ _)) hb2)
        clear hb2 hb c0 c1 c2 c3 c4 c5 HIW HKK
        obtain ⟨g1, g2⟩ := hgx
        generalize grossX x = gx at *
        go_wp2_with (fail)
        exact ⟨⟨k + 1, by omega, by go_num, by rw [unhide HST], HB2⟩, by simp [intOf]; omega⟩
      · obtain rfl : k = l.length := by omega
        rw [List.take_length]
        go_wp2_with (fail)
        go_ret
        exact ⟨rfl, unhide hb⟩

theorem billB_inv {x : B} (h : x.invs.length ≤ 8 ∧ ((List.range x.invs.length).all fun i => !badI x.invs i) = true) : ∀ k, k < x.invs.length → invB (x.invs.getD k I0) = true := fun k hk => by
  have := List.all_eq_true.1 h.2 k (List.mem_range.2 hk)
  unfold badI at this
  simp only [Bool.not_not, Bool.and_eq_true] at this
  exact this.2

set_option maxRecDepth 20000 in
set_option maxHeartbeats 1600000 in
/-- impl.BillOk -/
theorem billI (v : Value) (x : B) (w : World) (h : BV w v x) (hf : FineB x) (hw : FewB x) (he : EnvR w) :
    Calls Tryz.prog 14 #[v] w fun y w' => y = .returned (.bool (billB x)) ∧ Below w.heap.size w w' := by
  obtain ⟨tv, ev, iv, rfl, ht, hev, hiv⟩ := h
  obtain ⟨ta, tc, rfl⟩ := ht.slice
  obtain ⟨ea, ec, rfl⟩ := hev.slice
  obtain ⟨ia, ic, rfl⟩ := hiv.slice
  generalize hz : billB x = z
  have HZ : Hid ((okL x.tar && Evs.okB x.evs && decide (x.invs.length ≤ 8) && ((List.range x.invs.length).all fun i => !badI x.invs i) && Coin.okB (grossS x.invs) && unitB x.paid) = z) := hide hz
  have HT := hide ht
  have HV := hide hev
  have HI := hide hiv
  have HE := hide he
  obtain ⟨⟨f1, f2⟩, ⟨f3, f4⟩, f5, f6⟩ := hf
  obtain ⟨w1', w2', w3', w4'⟩ := hw
  clear ht hev hiv hz he
  go_enter Tryz.func14, Tryz.ntmps14
  go_wp2_with (fail)
  refine (tarI _ x.tar _ ((unhide HT).kept (below_alloc _ _)) w1' f2 ((unhide HE).kept (below_alloc _ _))).mono ?_
  rintro y w1 ⟨rfl, hb1⟩
  obtain ⟨q1, hB, hz1⟩ := Boxes.box1 hb1
  have Q1 := hide q1
  have B1 := hide hB
  obtain ⟨c1, _⟩ := q1 1 _ rfl
  clear hb1 hB q1
  cases hk : okL x.tar
  · have hr : z = false := by rw [← unhide HZ, hk]; rfl
    subst hr
    go_wp2_with (fail)
    go_ret
    exact ⟨rfl, unhide B1⟩
  go_wp2_with (fail)
  refine (Evs.okI _ x.evs w1 ((unhide HV).kept (unhide B1)) w2' f4).mono ?_
  rintro y w2 ⟨rfl, hb2⟩
  have q2 := (unhide Q1).below hb2 (by omega)
  have Q2 := hide q2
  have B2 := hide (below_trans (unhide B1) hb2)
  have hz2 := hb2.size
  obtain ⟨d2, _⟩ := q2 2 _ rfl
  clear hb2 q2 c1
  cases hv : Evs.okB x.evs
  · have hr : z = false := by rw [← unhide HZ, hk, hv]; rfl
    subst hr
    go_wp2_with (fail)
    go_ret
    exact ⟨rfl, unhide B2⟩
  by_cases h8 : x.invs.length ≤ 8
  · have i8 : ¬ (8 : Int) < (x.invs.length : Int) := by omega
    go_wp2_with (fail)
    have HZ2 : Hid ((((List.range x.invs.length).all fun i => !badI x.invs i) && Coin.okB (grossS x.invs) && unitB x.paid) = z) := hide (by rw [← unhide HZ, hk, hv, decide_eq_true h8]; rfl)
    have HNO : Hid (∀ k, k < x.invs.length → badI x.invs k = true → z = false) := hide (fun k hk' hb' => by
      have : ((List.range x.invs.length).all fun i => !badI x.invs i) = false := by
        rw [List.all_eq_false]
        exact ⟨k, by simpa using hk', by simp [hb']⟩
      rw [← unhide HZ2, this]; rfl)
    clear d2 HZ
    go_loopw [24] (fun i wr => ∃ k : Nat, k ≤ x.invs.length ∧ i = .int .i64 k ∧ Hid (∀ j, j < k → badI x.invs j = false) ∧ Hid (Below w2.heap.size w2 wr)) (fun i _ => x.invs.length - (intOf i).toNat)
    case atStart => exact ⟨0, Nat.zero_le _, rfl, hide (fun j hj => by omega), hide (Below.refl _ _)⟩
    case round =>
      obtain ⟨k, hk', rfl, hd, hb⟩ := hrel
      by_cases hlt : k < x.invs.length
      · obtain ⟨b, o, cap, hcf, hc⟩ : ∃ b o cap, Value.slice ia x.invs.length ic = .slice (some ⟨b, o, none⟩) x.invs.length cap ∧ IC w b o x.invs := by
          rcases unhide HI with ⟨h, _⟩ | h
          · rw [h] at hlt; simp at hlt
          · exact h
        simp only [Value.slice.injEq, true_and] at hcf
        obtain ⟨rfl, rfl⟩ := hcf
        obtain ⟨rv, ev', ⟨c0, c1, c2, c3, c4, c5⟩, hiw⟩ := (hc.kept (below_trans (unhide B2) (unhide hb))).2 k hlt
        obtain ⟨ra, rc, hrf⟩ := hiw.1.slice
        obtain ⟨ea', ec', hef⟩ := hiw.2.slice
        subst hrf hef
        have hfi := f6 (x.invs.getD k I0) (by simp [List.getD, hlt])
        have hwi := w4' (x.invs.getD k I0) (by simp [List.getD, hlt])
        have HIW : Hid (∀ ob, IW (wr.alloc ob) (.slice ra (x.invs.getD k I0).rows.length rc) (.slice ea' (x.invs.getD k I0).evs.length ec') (x.invs.getD k I0)) := hide (fun ob => hiw.kept (below_alloc _ _))
        have HBA : Hid (badI x.invs k = !(decide ((x.invs.getD k I0).no = (k : Int) + 1) && invB (x.invs.getD k I0))) := hide rfl
        have i1 : (0 : Int) ≤ (k : Int) := by omega
        have i2 : (k : Int) < (x.invs.length : Int) := by omega
        clear hiw hc
        generalize x.invs.getD k I0 = y at *
        by_cases hno : y.no = (k : Int) + 1
        · have bno : (y.no != (k : Int) + 1) = false := by simp [hno]
          have HNB : Hid (badI x.invs k = !invB y) := hide (by rw [unhide HBA, decide_eq_true hno]; rfl)
          clear hno
          go_wp2_with (fail)
          refine (invI y _ _ _ (unhide HIW _) hwi.1 hfi.1.2 hwi.2 hfi.2.2).mono ?_
          rintro q w3 ⟨rfl, hb3⟩
          have HB3 := hide (below_trans (below_trans (unhide hb) (below_alloc _ _)) hb3)
          clear hb3 hb c0 c1 c2 c3 c4 c5 HIW hfi hwi
          cases hi : invB y
          · have hr : z = false := unhide HNO k hlt (by rw [unhide HNB, hi]; rfl)
            subst hr
            go_wp2_with (fail)
            go_ret
            exact ⟨rfl, below_trans (unhide B2) (unhide HB3)⟩
          · have hd' : Hid (∀ j, j < k + 1 → badI x.invs j = false) := hide (fun j hj => by
              by_cases e : j < k
              · exact unhide hd j e
              · obtain rfl : j = k := by omega
                rw [unhide HNB, hi]; rfl)
            go_wp2_with (fail)
            exact ⟨⟨k + 1, by omega, by go_num, hd', HB3⟩, by simp [intOf]; omega⟩
        · have bno : (y.no != (k : Int) + 1) = true := by simp [hno]
          have hr : z = false := unhide HNO k hlt (by rw [unhide HBA, decide_eq_false hno]; rfl)
          subst hr
          clear hno
          go_wp2_with (fail)
          go_ret
          exact ⟨rfl, below_trans (below_trans (unhide B2) (unhide hb)) (below_alloc _ _)⟩
      · obtain rfl : k = x.invs.length := by omega
        have hall : ((List.range x.invs.length).all fun i => !badI x.invs i) = true := by
          rw [List.all_eq_true]
          intro i hi
          rw [unhide hd i (by simpa using hi)]; rfl
        have HZ3 : Hid ((Coin.okB (grossS x.invs) && unitB x.paid) = z) := hide (by rw [← unhide HZ2, hall]; rfl)
        have HIN := hide (billB_inv ⟨h8, hall⟩)
        have B3 := hide (below_trans (unhide B2) (unhide hb))
        have q3 := (unhide Q2).below (unhide hb) (by omega)
        have Q3 := hide q3
        have hz3 := (unhide hb).size
        obtain ⟨e2, _⟩ := q3 2 _ rfl
        clear q3 hall HZ2 HNO hd hb
        go_wp2_with (fail)
        refine (grossAllI _ x.invs wr ((unhide HI).kept (unhide B3)) h8 (unhide HIN)).mono ?_
        rintro q w4 ⟨rfl, hb4⟩
        have B4 := hide (below_trans (unhide B3) hb4)
        have q4 := (unhide Q3).below hb4 (by omega)
        obtain ⟨e3, _⟩ := q4 3 _ rfl
        clear hb4 q4 e2
        generalize grossS x.invs = g at *
        go_wp2_with (fail)
        refine (Coin.okI g _).mono ?_
        rintro q w5 ⟨rfl, hw5⟩
        subst hw5
        cases hg : Coin.okB g
        · have hr : z = false := by rw [← unhide HZ3, hg]; rfl
          subst hr
          go_wp2_with (fail)
          go_ret
          exact ⟨rfl, unhide B4⟩
        · have hr : z = unitB x.paid := by rw [← unhide HZ3, hg]; rfl
          subst hr
          go_wp2_with (fail)
          refine (unitI x.paid _).mono ?_
          rintro q w6 ⟨rfl, hw6⟩
          subst hw6
          go_wp2_with (fail)
          go_ret
          exact ⟨rfl, unhide B4⟩
  · have i8 : (8 : Int) < (x.invs.length : Int) := by omega
    have hr : z = false := by rw [← unhide HZ, decide_eq_false h8]; simp
    subst hr
    go_wp2_with (fail)
    go_ret
    exact ⟨rfl, unhide B2⟩
end Go.Proofs.YtkdaljonmkfdaaaGreatDoor.Bill
end

section
/-
  Lists of events that are right: the loops of spec.UseOk.
-/
namespace Go.Proofs.YtkdaljonmkfdaaaGreatDoor.Evs
set_option linter.unusedVariables false
open Go.RowKit RegIn

set_option maxHeartbeats 2000000 in
/-- spec.UseOk -/
theorem okS (v : Value) (l : List E) (w : World) (h : ER w v l) (hl : l.length ≤ 1048576) (hs : ∀ u ∈ l, u.1.size ≤ maxLen ∧ u.2.1.size ≤ maxLen) :
    Calls Tryz.prog 32 #[v] w fun e w' => e = .returned (.bool (okB l)) ∧ Below w.heap.size w w' := by
  by_cases h20 : 20 < l.length
  · rw [okB_long h20]
    obtain ⟨a, c, rfl⟩ := h.slice
    have y : (20 : Int) < l.length := by omega
    clear h
    go_enter Tryz.func32, Tryz.ntmps32
    go_wp2
    go_ret
    exact ⟨rfl, Below.refl _ _⟩
  have y : (l.length : Int) ≤ 20 := by omega
  rcases h with ⟨rfl, a, c, rfl⟩ | ⟨b, o, cap, rfl, hc⟩
  · go_enter Tryz.func32, Tryz.ntmps32
    go_wp2
    refine wp_loop_rounds 1 ?_
    rw [rounds_succ]
    go_wp2
    go_ret
    exact ⟨rfl, Below.refl _ _⟩
  · have HC := hide hc
    have hbs := hc.1
    clear hc
    generalize hr : okB l = r
    have HR := hide hr; clear hr
    go_enter Tryz.func32, Tryz.ntmps32
    go_wp2
    go_loopw [3] (fun i wr => ∃ k : Nat, k ≤ l.length ∧ i = .int .i64 k ∧ Hid (∀ j, j < k → badAt l j = false) ∧ Hid (Below w.heap.size w wr)) (fun i _ => l.length - (intOf i).toNat)
    case atStart => exact ⟨0, Nat.zero_le _, rfl, hide (fun j hj => by omega), hide (Below.refl _ _)⟩
    case round =>
      obtain ⟨k, hk, rfl, hd, hb⟩ := hrel
      by_cases hlt : k < l.length
      · obtain ⟨c0, c1, c2⟩ := ((unhide HC).kept (unhide hb)).2 k hlt
        obtain ⟨hsz, hmz⟩ : (l.getD k E0).1.size ≤ maxLen ∧ (l.getD k E0).2.1.size ≤ maxLen := hs _ (by simp [List.getD, hlt])
        have i1 : (0 : Int) ≤ (k : Int) := by omega
        have i2 : (k : Int) < (l.length : Int) := by omega
        have z1 : b < wr.heap.size := Nat.lt_of_lt_of_le hbs (unhide hb).size
        have HBA : Hid (badAt l k = (!rightE (l.getD k E0) || (decide (0 < k) && !ltS (l.getD (k - 1) E0).1 (l.getD k E0).1))) := hide rfl
        have k1 : k - 1 < l.length := by omega
        obtain ⟨p0, _, _⟩ := ((unhide HC).kept (unhide hb)).2 (k - 1) k1
        generalize hx : l.getD k E0 = x at *
        generalize hp : (l.getD (k - 1) E0).1 = t at *
        clear hx hp
        obtain ⟨s, m, q⟩ := x
        simp only at c0 c1 c2 hsz hmz
        have HCA : Hid (∀ W : World, Calls Tryz.prog 76 #[.agg #[.string s, .string m, .int .i64 q]] W fun x w' => x = .returned (.bool (rightE (s, m, q))) ∧ Below W.heap.size W w') := hide (fun W => rightS (s, m, q) W hsz hmz)
        generalize hR : rightE (s, m, q) = rt at *
        clear hR
        have HK : Hid (∀ w2 w3 : World, (w2.cell? ⟨b, o + k * 3, none⟩ = some (.string s) ∧ w2.cell? ⟨b, o + k * 3 + 1, none⟩ = some (.string m) ∧ w2.cell? ⟨b, o + k * 3 + 2, none⟩ = some (.int .i64 q) ∧ w2.cell? ⟨b, o + (k - 1) * 3, none⟩ = some (.string t) ∧ b < w2.heap.size ∧ b < w2.heap.size ∧ Below w.heap.size w w2) → Below w2.heap.size w2 w3 → (w3.cell? ⟨b, o + k * 3, none⟩ = some (.string s) ∧ w3.cell? ⟨b, o + k * 3 + 1, none⟩ = some (.string m) ∧ w3.cell? ⟨b, o + k * 3 + 2, none⟩ = some (.int .i64 q) ∧ w3.cell? ⟨b, o + (k - 1) * 3, none⟩ = some (.string t) ∧ b < w3.heap.size ∧ b < w3.heap.size ∧ Below w.heap.size w w3)) := hide (fun w2 w3 ⟨a1, a2, a3, a4, a5, a6, a7⟩ hb => ⟨(hb.cell (p := ⟨b, o + k * 3, none⟩) a6).trans a1, (hb.cell (p := ⟨b, o + k * 3 + 1, none⟩) a6).trans a2, (hb.cell (p := ⟨b, o + k * 3 + 2, none⟩) a6).trans a3, (hb.cell (p := ⟨b, o + (k - 1) * 3, none⟩) a6).trans a4, Nat.lt_of_lt_of_le a5 hb.size, Nat.lt_of_lt_of_le a6 hb.size, below_trans a7 hb⟩)
        generalize hS : (fun w2 : World => w2.cell? ⟨b, o + k * 3, none⟩ = some (.string s) ∧ w2.cell? ⟨b, o + k * 3 + 1, none⟩ = some (.string m) ∧ w2.cell? ⟨b, o + k * 3 + 2, none⟩ = some (.int .i64 q) ∧ w2.cell? ⟨b, o + (k - 1) * 3, none⟩ = some (.string t) ∧ b < w2.heap.size ∧ b < w2.heap.size ∧ Below w.heap.size w w2) = S
        have HSI : Hid (∀ w2 : World, (w2.cell? ⟨b, o + k * 3, none⟩ = some (.string s) ∧ w2.cell? ⟨b, o + k * 3 + 1, none⟩ = some (.string m) ∧ w2.cell? ⟨b, o + k * 3 + 2, none⟩ = some (.int .i64 q) ∧ w2.cell? ⟨b, o + (k - 1) * 3, none⟩ = some (.string t) ∧ b < w2.heap.size ∧ b < w2.heap.size ∧ Below w.heap.size w w2) → S w2) := hide (fun w2 h => by rw [← hS]; exact h)
        have HSE : Hid (∀ w2 : World, S w2 → (w2.cell? ⟨b, o + k * 3, none⟩ = some (.string s) ∧ w2.cell? ⟨b, o + k * 3 + 1, none⟩ = some (.string m) ∧ w2.cell? ⟨b, o + k * 3 + 2, none⟩ = some (.int .i64 q) ∧ w2.cell? ⟨b, o + (k - 1) * 3, none⟩ = some (.string t) ∧ b < w2.heap.size ∧ b < w2.heap.size ∧ Below w.heap.size w w2)) := hide (fun w2 h => by rw [← hS] at h; exact h)
        clear hS
        have g0 : ∀ g : In S, g.x.cell? ⟨b, o + k * 3, none⟩ = some (.string s) := fun g => (unhide HSE _ g.h).1
        have g1 : ∀ g : In S, g.x.cell? ⟨b, o + k * 3 + 1, none⟩ = some (.string m) := fun g => (unhide HSE _ g.h).2.1
        have g2 : ∀ g : In S, g.x.cell? ⟨b, o + k * 3 + 2, none⟩ = some (.int .i64 q) := fun g => (unhide HSE _ g.h).2.2.1
        have g3 : ∀ g : In S, g.x.cell? ⟨b, o + (k - 1) * 3, none⟩ = some (.string t) := fun g => (unhide HSE _ g.h).2.2.2.1
        have HCB : Hid (∀ g : In S, Calls Tryz.prog 76 #[.agg #[.string s, .string m, .int .i64 q]] g.x fun x w' => x = .returned (.bool rt) ∧ S w') := hide (fun g => (unhide HCA g.x).mono (fun x w' ⟨hx, hb⟩ => ⟨hx, unhide HSI _ (unhide HK _ _ (unhide HSE _ g.h) hb)⟩))
        clear HCA
        cases rt with
        | false =>
          have hr : r = false := (unhide HR).symm.trans (okB_bad hlt ((unhide HBA).trans (by simp)))
          subst hr
          go_wp2
          refine wp_region_in S (by kernel_rfl) (by kernel_rfl) (unhide HSI _ ⟨?_, ?_, ?_, ?_, ?_, ?_, ?_⟩) ?_
          · go_keep
          · go_keep
          · go_keep
          · go_keep
          · exact z1
          · exact z1
          · exact below_drewN' (unhide hb) 1
          intro hne
          repeat (go_big_quiet_step (exact call_in _ (unhide HCB _)))
          refine wpQuiet_nil ?_
          rintro _ ⟨g, rfl⟩
          have HG := hide (unhide HSE _ g.h).2.2.2.2.2.2
          go_wp2
          go_ret
          exact ⟨rfl, unhide HG⟩
        | true =>
          by_cases k0 : k = 0
          · have hd' : Hid (∀ j, j < k + 1 → badAt l j = false) := hide (bad_next (unhide hd) ((unhide HBA).trans (by simp [k0])))
            have kn : decide (0 < k) = false := by simp [k0]
            clear k0
            go_wp2
            refine wp_region_in S (by kernel_rfl) (by kernel_rfl) (unhide HSI _ ⟨?_, ?_, ?_, ?_, ?_, ?_, ?_⟩) ?_
            · go_keep
            · go_keep
            · go_keep
            · go_keep
            · exact z1
            · exact z1
            · exact below_drewN' (unhide hb) 1
            intro hne
            repeat (go_big_quiet_step (exact call_in _ (unhide HCB _)))
            refine wpQuiet_nil ?_
            rintro _ ⟨g, rfl⟩
            have HG := hide (unhide HSE _ g.h).2.2.2.2.2.2
            go_wp2
            exact ⟨⟨k + 1, by omega, by go_num, hd', HG⟩, by simp [intOf]; omega⟩
          · have kn : 0 < k := by omega
            have kk : (0 : Int) < (k : Int) := by omega
            have j1 : (0 : Int) ≤ (k : Int) - 1 := by omega
            have j2 : (k : Int) - 1 < (l.length : Int) := by omega
            have hwr : IntKind.i64.wrap ((k : Int) - 1) = (k : Int) - 1 := IntWalk.i64_in _ ⟨by omega, by omega⟩
            have htn : ((k : Int) - 1).toNat = k - 1 := by omega
            have hcmp := ltS_total t s
            cases hlx : ltS t s with
            | false =>
              have hr : r = false := (unhide HR).symm.trans (okB_bad hlt ((unhide HBA).trans (by simp [kn, hlx])))
              subst hr
              rw [hlx] at hcmp
              simp only [ltS, Bool.not_false] at hcmp
              go_wp2
              refine wp_region_in S (by kernel_rfl) (by kernel_rfl) (unhide HSI _ ⟨?_, ?_, ?_, ?_, ?_, ?_, ?_⟩) ?_
              · go_keep
              · go_keep
              · go_keep
              · go_keep
              · exact z1
              · exact z1
              · exact below_drewN' (unhide hb) 1
              intro hne
              repeat (go_big_quiet_step (exact call_in _ (unhide HCB _)))
              refine wpQuiet_nil ?_
              rintro _ ⟨g, rfl⟩
              have HG := hide (unhide HSE _ g.h).2.2.2.2.2.2
              go_wp2
              go_ret
              exact ⟨rfl, unhide HG⟩
            | true =>
              have hd' : Hid (∀ j, j < k + 1 → badAt l j = false) := hide (bad_next (unhide hd) ((unhide HBA).trans (by simp [kn, hlx])))
              rw [hlx] at hcmp
              simp only [ltS, Bool.not_true] at hcmp
              go_wp2
              refine wp_region_in S (by kernel_rfl) (by kernel_rfl) (unhide HSI _ ⟨?_, ?_, ?_, ?_, ?_, ?_, ?_⟩) ?_
              · go_keep
              · go_keep
              · go_keep
              · go_keep
              · exact z1
              · exact z1
              · exact below_drewN' (unhide hb) 1
              intro hne
              repeat (go_big_quiet_step (exact call_in _ (unhide HCB _)))
              refine wpQuiet_nil ?_
              rintro _ ⟨g, rfl⟩
              have HG := hide (unhide HSE _ g.h).2.2.2.2.2.2
              go_wp2
              exact ⟨⟨k + 1, by omega, by go_num, hd', HG⟩, by simp [intOf]; omega⟩
      · have hr : r = true := (unhide HR).symm.trans (okB_true (by omega) (fun j hj => unhide hd j (by omega)))
        subst hr
        go_wp2
        go_ret
        exact ⟨rfl, unhide hb⟩
end Go.Proofs.YtkdaljonmkfdaaaGreatDoor.Evs
end

section
/-
  Invoices that are right: spec.l4Invoice.
-/
namespace Go.Proofs.YtkdaljonmkfdaaaGreatDoor.Bill
set_option linter.unusedVariables false
open Go.RowKit RegIn
open Evs (hide unhide below_trans below_drewN' ltS ltS_total E ER)
open BRow (R R0 RR RC)
open Bills (I I0 IW IR below_alloc)
open Kinds (nameB nameS)

/-- the worlds of a round: the row's own box at B, the invoice's at vb, the name ahead of it at p in block b -/
def SWI (w : World) (B vb b p : Nat) (rv : Value) (s : ByteArray) (m q : Int) (t : ByteArray) (w2 : World) : Prop :=
  w2.cell? ⟨B, 0, none⟩ = some (.string s) ∧ w2.cell? ⟨B, 1, none⟩ = some (.int .i64 m) ∧ w2.cell? ⟨B, 2, none⟩ = some (.int .i64 q) ∧ w2.cell? ⟨vb, 1, none⟩ = some rv ∧ w2.cell? ⟨b, p, none⟩ = some (.string t) ∧ B < w2.heap.size ∧ vb < w2.heap.size ∧ b < w2.heap.size ∧ Below w.heap.size w w2
theorem SWI.kept {w : World} {B vb b p : Nat} {rv : Value} {s : ByteArray} {m q : Int} {t : ByteArray} {w2 w3 : World} (h : SWI w B vb b p rv s m q t w2) (hb : Below w2.heap.size w2 w3) : SWI w B vb b p rv s m q t w3 := by
  obtain ⟨a1, a2, a3, a4, a5, a6, a7, a8, a9⟩ := h
  exact ⟨(hb.cell (p := ⟨B, 0, none⟩) a6).trans a1, (hb.cell (p := ⟨B, 1, none⟩) a6).trans a2, (hb.cell (p := ⟨B, 2, none⟩) a6).trans a3, (hb.cell (p := ⟨vb, 1, none⟩) a7).trans a4, (hb.cell (p := ⟨b, p, none⟩) a8).trans a5, Nat.lt_of_lt_of_le a6 hb.size, Nat.lt_of_lt_of_le a7 hb.size, Nat.lt_of_lt_of_le a8 hb.size, below_trans a9 hb⟩

theorem sums_bd2 {l : List R} (h6 : l.length ≤ 6) {k : Nat} (hk : k ≤ l.length) (h : ∀ j, j < k → badR l j = false) : (0 ≤ netS (l.take k) ∧ netS (l.take k) ≤ 6000000000000000) ∧ (0 ≤ taxS (l.take k) ∧ taxS (l.take k) ≤ 6000000000000000) := by
  have hx : ∀ x ∈ l.take k, (0 ≤ x.2.1 ∧ x.2.1 ≤ 1000000000000000) ∧ (0 ≤ x.2.2 ∧ x.2.2 ≤ 1000000000000000) := fun x hx => by
    obtain ⟨i, hi, rfl⟩ := List.getElem_of_mem hx
    have hik : i < k := by simp at hi; omega
    have hil : i < l.length := by omega
    have h2 := h i hik
    unfold badR at h2
    have e : l.getD i R0 = (l.take k)[i] := by simp [List.getD, hil]
    rw [e] at h2
    have h3 : rowB (l.take k)[i] = true := by
      cases hc : rowB (l.take k)[i]
      · rw [hc] at h2; simp at h2
      · rfl
    unfold rowB at h3
    rw [Bool.and_eq_true, Bool.and_eq_true, unitB_iff, unitB_iff] at h3
    exact ⟨h3.1.2, h3.2⟩
  have hl : (l.take k).length ≤ 6 := by simp; omega
  have a := sum_bd (·.2.1) 1000000000000000 (l.take k) (fun x h' => (hx x h').1)
  have b := sum_bd (·.2.2) 1000000000000000 (l.take k) (fun x h' => (hx x h').2)
  unfold netS taxS
  omega

set_option maxRecDepth 20000 in
set_option maxHeartbeats 8000000 in
/-- spec.l4Invoice -/
theorem invS (x : I) (no : Int) (rv ev : Value) (w : World) (h : IW w rv ev x) (h1 : x.rows.length ≤ 1048576) (h2 : ∀ u ∈ x.rows, u.1.size ≤ maxLen) (h3 : x.evs.length ≤ 1048576) (h4 : ∀ u ∈ x.evs, u.1.size ≤ maxLen ∧ u.2.1.size ≤ maxLen) :
    Calls Tryz.prog 34 #[.agg #[.int .i64 x.no, rv, ev, .int .i64 x.net, .int .i64 x.tax, .int .i64 x.credit], .int .i64 no] w fun y w' => y = .returned (.bool (decide (x.no = no) && invB x)) ∧ Below w.heap.size w w' := by
  obtain ⟨hr, hv⟩ := h
  obtain ⟨ra, rc, rfl⟩ := hr.slice
  obtain ⟨ea, ec, rfl⟩ := hv.slice
  obtain ⟨xno, l, evs, net, tax, credit⟩ := x
  simp only at *
  generalize hz : (decide (xno = no) && invB ⟨xno, l, evs, net, tax, credit⟩) = r
  have HZ : Hid ((decide (xno = no) && (okR l && Evs.okB evs && decide (net = netS l) && decide (tax = taxS l) && Coin.okB (netS l + taxS l) && decide (0 ≤ credit ∧ credit ≤ netS l + taxS l))) = r) := hide hz
  have HR := hide hr
  have HV := hide hv
  clear hr hv hz
  by_cases hno : xno = no
  rotate_left
  · have bno : (xno != no) = true := by simp [hno]
    have hr : r = false := by rw [← unhide HZ, decide_eq_false hno]; rfl
    subst hr
    clear hno
    go_enter Tryz.func34, Tryz.ntmps34
    go_wp2_with (fail)
    go_ret
    exact ⟨rfl, below_alloc _ _⟩
  have bno : (xno != no) = false := by simp [hno]
  by_cases h6 : l.length ≤ 6
  rotate_left
  · have i6 : (6 : Int) < (l.length : Int) := by omega
    have hr : r = false := by rw [← unhide HZ, okR_long (by omega)]; simp
    subst hr
    clear hno
    go_enter Tryz.func34, Tryz.ntmps34
    go_wp2_with (fail)
    go_ret
    exact ⟨rfl, below_alloc _ _⟩
  have i6 : ¬ (6 : Int) < (l.length : Int) := by omega
  have HZ1 : Hid ((okR l && Evs.okB evs && decide (net = netS l) && decide (tax = taxS l) && Coin.okB (netS l + taxS l) && decide (0 ≤ credit ∧ credit ≤ netS l + taxS l)) = r) := hide (by rw [← unhide HZ, decide_eq_true hno]; rfl)
  clear hno HZ
  go_enter Tryz.func34, Tryz.ntmps34
  go_wp2_with (fail)
  refine (Evs.okS _ evs _ ((unhide HV).kept (below_alloc _ _)) h3 h4).mono ?_
  rintro y w1 ⟨rfl, hb1⟩
  obtain ⟨q1, hB, hz1⟩ := Boxes.box1 hb1
  have Q1 := hide q1
  have B1 := hide hB
  clear hb1 hB q1
  cases hv : Evs.okB evs
  · have hr : r = false := by rw [← unhide HZ1, hv]; simp
    subst hr
    go_wp2_with (fail)
    go_ret
    exact ⟨rfl, unhide B1⟩
  have HZ2 : Hid ((okR l && decide (net = netS l) && decide (tax = taxS l) && Coin.okB (netS l + taxS l) && decide (0 ≤ credit ∧ credit ≤ netS l + taxS l)) = r) := hide (by rw [← unhide HZ1, hv]; simp)
  have HNO' : Hid (∀ k, k < l.length → badR l k = true → r = false) := hide (fun k hk hb' => by rw [← unhide HZ2, okR_bad hk hb']; simp)
  clear HZ1
  go_wp2_with (fail)
  go_loopw [5, 6, 7] (fun a b i wr => ∃ k : Nat, k ≤ l.length ∧ i = .int .i64 k ∧ a = .int .i64 (netS (l.take k)) ∧ b = .int .i64 (taxS (l.take k)) ∧ Hid (∀ j, j < k → badR l j = false) ∧ Hid (Below w1.heap.size w1 wr)) (fun _ _ i _ => l.length - (intOf i).toNat)
  case atStart => exact ⟨0, Nat.zero_le _, rfl, rfl, rfl, hide (fun j hj => by omega), hide (Below.refl _ _)⟩
  case round =>
    obtain ⟨k, hk, rfl, rfl, rfl, hd, hb⟩ := hrel
    have hsb := sums_bd2 h6 hk (unhide hd)
    have hzr := (unhide hb).size
    have q2 := (unhide Q1).below (unhide hb) (by omega)
    obtain ⟨v1, _⟩ := q2 1 _ rfl
    by_cases hlt : k < l.length
    · obtain ⟨b, o, cap, hcf, hc⟩ : ∃ b o cap, Value.slice ra l.length rc = .slice (some ⟨b, o, none⟩) l.length cap ∧ RC w b o l := by
        rcases unhide HR with ⟨h, _⟩ | h
        · rw [h] at hlt; simp at hlt
        · exact h
      simp only [Value.slice.injEq, true_and] at hcf
      obtain ⟨rfl, rfl⟩ := hcf
      have hck := hc.kept (below_trans (unhide B1) (unhide hb))
      obtain ⟨c0, c1, c2⟩ := hck.2 k hlt
      have hsz : (l.getD k R0).1.size ≤ maxLen := h2 _ (by simp [List.getD, hlt])
      have i1 : (0 : Int) ≤ (k : Int) := by omega
      have i2 : (k : Int) < (l.length : Int) := by omega
      have z1 : b < wr.heap.size := hck.1
      have k1 : k - 1 < l.length := by omega
      obtain ⟨p0, _, _⟩ := hck.2 (k - 1) k1
      have HN1 := hide (sum_take (·.2.1) l k hlt)
      have HN2 := hide (sum_take (·.2.2) l k hlt)
      have HBA : Hid (badR l k = (!rowB (l.getD k R0) || (decide (0 < k) && !ltS (l.getD (k - 1) R0).1 (l.getD k R0).1))) := hide rfl
      have HNO := hide (unhide HNO' k hlt)
      generalize hx : l.getD k R0 = x at *
      generalize hp : (l.getD (k - 1) R0).1 = t at *
      clear hx hp hck hc
      obtain ⟨s, m, q⟩ := x
      simp only at c0 c1 c2 hsz HBA HN1 HN2
      have HBA2 : Hid (badR l k = (!(nameB s && unitB m && unitB q) || (decide (0 < k) && !ltS t s))) := hide (unhide HBA)
      clear HBA
      have HBA := HBA2
      clear HBA2
      obtain ⟨⟨s1, s2⟩, s3, s4⟩ := hsb
      have HN1' : Hid (netS (l.take (k + 1)) = netS (l.take k) + m) := HN1
      have HN2' : Hid (taxS (l.take (k + 1)) = taxS (l.take k) + q) := HN2
      clear HN1 HN2
      have HN1 := HN1'
      have HN2 := HN2'
      clear HN1' HN2'
      generalize netS (l.take k) = n1 at *
      generalize taxS (l.take k) = n2 at *
      have HCA : Hid (∀ W : World, Calls Tryz.prog 77 #[.string s] W fun x w' => x = .returned (.bool (nameB s)) ∧ Below W.heap.size W w') := hide (fun W => nameS s W hsz)
      generalize hnb : nameB s = nb at *
      clear hnb
      generalize hom : Coin.okB m = om
      generalize hoq : Coin.okB q = oq
      have HOM := hide hom
      have HOQ := hide hoq
      clear hom hoq
      generalize hS : SWI w1 wr.heap.size w.heap.size b (o + (k - 1) * 3) (.slice (some ⟨b, o, none⟩) l.length rc) s m q t = S
      have HSI : Hid (∀ w2 : World, SWI w1 wr.heap.size w.heap.size b (o + (k - 1) * 3) (.slice (some ⟨b, o, none⟩) l.length rc) s m q t w2 → S w2) := hide (fun w2 h => by rw [← hS]; exact h)
      have HSE : Hid (∀ w2 : World, S w2 → SWI w1 wr.heap.size w.heap.size b (o + (k - 1) * 3) (.slice (some ⟨b, o, none⟩) l.length rc) s m q t w2) := hide (fun w2 h => by rw [← hS] at h; exact h)
      clear hS
      have g0 : ∀ g : In S, g.x.cell? ⟨wr.heap.size, 0, none⟩ = some (.string s) := fun g => (unhide HSE _ g.h).1
      have g1 : ∀ g : In S, g.x.cell? ⟨wr.heap.size, 1, none⟩ = some (.int .i64 m) := fun g => (unhide HSE _ g.h).2.1
      have g2 : ∀ g : In S, g.x.cell? ⟨wr.heap.size, 2, none⟩ = some (.int .i64 q) := fun g => (unhide HSE _ g.h).2.2.1
      have g3 : ∀ g : In S, g.x.cell? ⟨w.heap.size, 1, none⟩ = some (.slice (some ⟨b, o, none⟩) l.length rc) := fun g => (unhide HSE _ g.h).2.2.2.1
      have g4 : ∀ g : In S, g.x.cell? ⟨b, o + (k - 1) * 3, none⟩ = some (.string t) := fun g => (unhide HSE _ g.h).2.2.2.2.1
      have HCB : Hid (∀ g : In S, Calls Tryz.prog 77 #[.string s] g.x fun x w' => x = .returned (.bool nb) ∧ S w') := hide (fun g => (unhide HCA g.x).mono (fun x w' ⟨hx, hb⟩ => ⟨hx, unhide HSI _ ((unhide HSE _ g.h).kept hb)⟩))
      have HCM : Hid (∀ g : In S, Calls Tryz.prog 33 #[.int .i64 m] g.x fun x w' => x = .returned (.bool om) ∧ S w') := hide (fun g => (Coin.okS m g.x).mono (fun x w' ⟨hx, hb⟩ => ⟨by rw [hx, unhide HOM], by rw [hb]; exact g.h⟩))
      have HCQ : Hid (∀ g : In S, Calls Tryz.prog 33 #[.int .i64 q] g.x fun x w' => x = .returned (.bool oq) ∧ S w') := hide (fun g => (Coin.okS q g.x).mono (fun x w' ⟨hx, hb⟩ => ⟨by rw [hx, unhide HOQ], by rw [hb]; exact g.h⟩))
      clear HCA q2
      cases nb
      · have hr : r = false := unhide HNO (by rw [unhide HBA]; simp)
        subst hr
        go_wp2
        refine wp_region_in S (by kernel_rfl) (by kernel_rfl) (unhide HSI _ ⟨?_, ?_, ?_, ?_, ?_, ?_, ?_, ?_, ?_⟩) ?_
        · go_keep
        · go_keep
        · go_keep
        · go_keep
        · go_keep
        · simp
        · simp; omega
        · simp; omega
        · exact below_drewN' ((unhide hb).alloc (unhide hb).size _) 1
        intro hne
        repeat (go_big_quiet_step (first | exact call_in _ (unhide HCB _) | exact call_in _ (unhide HCM _) | exact call_in _ (unhide HCQ _)))
        refine wpQuiet_nil ?_
        rintro _ ⟨g, rfl⟩
        have HG := hide (unhide HSE _ g.h).2.2.2.2.2.2.2.2
        go_wp2
        go_ret
        exact ⟨rfl, below_trans (unhide B1) (unhide HG)⟩
      by_cases k0 : k = 0
      · have kn : decide (0 < k) = false := by simp [k0]
        clear k0
        by_cases hm0 : m < 0
        · have um : unitB m = false := by unfold unitB; rw [decide_eq_false (by omega)]; rfl
          have hr : r = false := unhide HNO (by rw [unhide HBA, kn, um]; simp)
          subst hr
          go_wp2
          refine wp_region_in S (by kernel_rfl) (by kernel_rfl) (unhide HSI _ ⟨?_, ?_, ?_, ?_, ?_, ?_, ?_, ?_, ?_⟩) ?_
          · go_keep
          · go_keep
          · go_keep
          · go_keep
          · go_keep
          · simp
          · simp; omega
          · simp; omega
          · exact below_drewN' ((unhide hb).alloc (unhide hb).size _) 1
          intro hne
          repeat (go_big_quiet_step (first | exact call_in _ (unhide HCB _) | exact call_in _ (unhide HCM _) | exact call_in _ (unhide HCQ _)))
          refine wpQuiet_nil ?_
          rintro _ ⟨g, rfl⟩
          have HG := hide (unhide HSE _ g.h).2.2.2.2.2.2.2.2
          go_wp2
          go_ret
          exact ⟨rfl, below_trans (unhide B1) (unhide HG)⟩
        have hm0' : decide (m < 0) = false := decide_eq_false hm0
        by_cases hq0 : q < 0
        · have uq : unitB q = false := by unfold unitB; rw [decide_eq_false (by omega)]; rfl
          have hr : r = false := unhide HNO (by rw [unhide HBA, kn, uq]; simp)
          subst hr
          go_wp2
          refine wp_region_in S (by kernel_rfl) (by kernel_rfl) (unhide HSI _ ⟨?_, ?_, ?_, ?_, ?_, ?_, ?_, ?_, ?_⟩) ?_
          · go_keep
          · go_keep
          · go_keep
          · go_keep
          · go_keep
          · simp
          · simp; omega
          · simp; omega
          · exact below_drewN' ((unhide hb).alloc (unhide hb).size _) 1
          intro hne
          repeat (go_big_quiet_step (first | exact call_in _ (unhide HCB _) | exact call_in _ (unhide HCM _) | exact call_in _ (unhide HCQ _)))
          refine wpQuiet_nil ?_
          rintro _ ⟨g, rfl⟩
          have HG := hide (unhide HSE _ g.h).2.2.2.2.2.2.2.2
          go_wp2
          go_ret
          exact ⟨rfl, below_trans (unhide B1) (unhide HG)⟩
        have hq0' : decide (q < 0) = false := decide_eq_false hq0
        have um' : unitB m = om := by rw [← unhide HOM]; unfold unitB; rw [decide_eq_true (by omega)]; rfl
        have uq' : unitB q = oq := by rw [← unhide HOQ]; unfold unitB; rw [decide_eq_true (by omega)]; rfl
        cases om
        · have hr : r = false := unhide HNO (by rw [unhide HBA, kn, um']; simp)
          subst hr
          go_wp2
          refine wp_region_in S (by kernel_rfl) (by kernel_rfl) (unhide HSI _ ⟨?_, ?_, ?_, ?_, ?_, ?_, ?_, ?_, ?_⟩) ?_
          · go_keep
          · go_keep
          · go_keep
          · go_keep
          · go_keep
          · simp
          · simp; omega
          · simp; omega
          · exact below_drewN' ((unhide hb).alloc (unhide hb).size _) 1
          intro hne
          repeat (go_big_quiet_step (first | exact call_in _ (unhide HCB _) | exact call_in _ (unhide HCM _) | exact call_in _ (unhide HCQ _)))
          refine wpQuiet_nil ?_
          rintro _ ⟨g, rfl⟩
          have HG := hide (unhide HSE _ g.h).2.2.2.2.2.2.2.2
          go_wp2
          go_ret
          exact ⟨rfl, below_trans (unhide B1) (unhide HG)⟩
        cases oq
        · have hr : r = false := unhide HNO (by rw [unhide HBA, kn, uq']; simp)
          subst hr
          go_wp2
          refine wp_region_in S (by kernel_rfl) (by kernel_rfl) (unhide HSI _ ⟨?_, ?_, ?_, ?_, ?_, ?_, ?_, ?_, ?_⟩) ?_
          · go_keep
          · go_keep
          · go_keep
          · go_keep
          · go_keep
          · simp
          · simp; omega
          · simp; omega
          · exact below_drewN' ((unhide hb).alloc (unhide hb).size _) 1
          intro hne
          repeat (go_big_quiet_step (first | exact call_in _ (unhide HCB _) | exact call_in _ (unhide HCM _) | exact call_in _ (unhide HCQ _)))
          refine wpQuiet_nil ?_
          rintro _ ⟨g, rfl⟩
          have HG := hide (unhide HSE _ g.h).2.2.2.2.2.2.2.2
          go_wp2
          go_ret
          exact ⟨rfl, below_trans (unhide B1) (unhide HG)⟩
        have hmb := Coin.okB_iff.1 (unhide HOM)
        have hqb := Coin.okB_iff.1 (unhide HOQ)
        have hd' : Hid (∀ j, j < k + 1 → badR l j = false) := hide (badR_next (unhide hd) (by rw [unhide HBA, kn, um', uq']; simp))
        go_wp2
        refine wp_region_in S (by kernel_rfl) (by kernel_rfl) (unhide HSI _ ⟨?_, ?_, ?_, ?_, ?_, ?_, ?_, ?_, ?_⟩) ?_
        · go_keep
        · go_keep
        · go_keep
        · go_keep
        · go_keep
        · simp
        · simp; omega
        · simp; omega
        · exact below_drewN' ((unhide hb).alloc (unhide hb).size _) 1
        intro hne
        repeat (go_big_quiet_step (first | exact call_in _ (unhide HCB _) | exact call_in _ (unhide HCM _) | exact call_in _ (unhide HCQ _)))
        refine wpQuiet_nil ?_
        rintro _ ⟨g, rfl⟩
        have HG := hide (unhide HSE _ g.h).2.2.2.2.2.2.2.2
        obtain ⟨y1, y2, y3, _⟩ := unhide HSE _ g.h
        go_wp2
        exact ⟨⟨k + 1, by omega, by go_num, by rw [unhide HN1], by rw [unhide HN2], hd', HG⟩, by simp [intOf]; omega⟩
      have kn : decide (0 < k) = true := decide_eq_true (by omega)
      have kk : (0 : Int) < (k : Int) := by omega
      have j1 : (0 : Int) ≤ (k : Int) - 1 := by omega
      have j2 : (k : Int) - 1 < (l.length : Int) := by omega
      have hwr : IntKind.i64.wrap ((k : Int) - 1) = (k : Int) - 1 := IntWalk.i64_in _ ⟨by omega, by omega⟩
      have htn : ((k : Int) - 1).toNat = k - 1 := by omega
      have hcmp := ltS_total t s
      cases hlx : ltS t s with
      | false =>
        rw [hlx] at hcmp
        simp only [ltS, Bool.not_false] at hcmp
        have hr : r = false := unhide HNO (by rw [unhide HBA, hlx, kn]; simp)
        subst hr
        go_wp2
        refine wp_region_in S (by kernel_rfl) (by kernel_rfl) (unhide HSI _ ⟨?_, ?_, ?_, ?_, ?_, ?_, ?_, ?_, ?_⟩) ?_
        · go_keep
        · go_keep
        · go_keep
        · go_keep
        · go_keep
        · simp
        · simp; omega
        · simp; omega
        · exact below_drewN' ((unhide hb).alloc (unhide hb).size _) 1
        intro hne
        repeat (go_big_quiet_step (first | exact call_in _ (unhide HCB _) | exact call_in _ (unhide HCM _) | exact call_in _ (unhide HCQ _)))
        refine wpQuiet_nil ?_
        rintro _ ⟨g, rfl⟩
        have HG := hide (unhide HSE _ g.h).2.2.2.2.2.2.2.2
        go_wp2
        go_ret
        exact ⟨rfl, below_trans (unhide B1) (unhide HG)⟩
      | true =>
        rw [hlx] at hcmp
        simp only [ltS, Bool.not_true] at hcmp
        by_cases hm0 : m < 0
        · have um : unitB m = false := by unfold unitB; rw [decide_eq_false (by omega)]; rfl
          have hr : r = false := unhide HNO (by rw [unhide HBA, hlx, um]; simp)
          subst hr
          go_wp2
          refine wp_region_in S (by kernel_rfl) (by kernel_rfl) (unhide HSI _ ⟨?_, ?_, ?_, ?_, ?_, ?_, ?_, ?_, ?_⟩) ?_
          · go_keep
          · go_keep
          · go_keep
          · go_keep
          · go_keep
          · simp
          · simp; omega
          · simp; omega
          · exact below_drewN' ((unhide hb).alloc (unhide hb).size _) 1
          intro hne
          repeat (go_big_quiet_step (first | exact call_in _ (unhide HCB _) | exact call_in _ (unhide HCM _) | exact call_in _ (unhide HCQ _)))
          refine wpQuiet_nil ?_
          rintro _ ⟨g, rfl⟩
          have HG := hide (unhide HSE _ g.h).2.2.2.2.2.2.2.2
          go_wp2
          go_ret
          exact ⟨rfl, below_trans (unhide B1) (unhide HG)⟩
        have hm0' : decide (m < 0) = false := decide_eq_false hm0
        by_cases hq0 : q < 0
        · have uq : unitB q = false := by unfold unitB; rw [decide_eq_false (by omega)]; rfl
          have hr : r = false := unhide HNO (by rw [unhide HBA, hlx, uq]; simp)
          subst hr
          go_wp2
          refine wp_region_in S (by kernel_rfl) (by kernel_rfl) (unhide HSI _ ⟨?_, ?_, ?_, ?_, ?_, ?_, ?_, ?_, ?_⟩) ?_
          · go_keep
          · go_keep
          · go_keep
          · go_keep
          · go_keep
          · simp
          · simp; omega
          · simp; omega
          · exact below_drewN' ((unhide hb).alloc (unhide hb).size _) 1
          intro hne
          repeat (go_big_quiet_step (first | exact call_in _ (unhide HCB _) | exact call_in _ (unhide HCM _) | exact call_in _ (unhide HCQ _)))
          refine wpQuiet_nil ?_
          rintro _ ⟨g, rfl⟩
          have HG := hide (unhide HSE _ g.h).2.2.2.2.2.2.2.2
          go_wp2
          go_ret
          exact ⟨rfl, below_trans (unhide B1) (unhide HG)⟩
        have hq0' : decide (q < 0) = false := decide_eq_false hq0
        have um' : unitB m = om := by rw [← unhide HOM]; unfold unitB; rw [decide_eq_true (by omega)]; rfl
        have uq' : unitB q = oq := by rw [← unhide HOQ]; unfold unitB; rw [decide_eq_true (by omega)]; rfl
        cases om
        · have hr : r = false := unhide HNO (by rw [unhide HBA, hlx, um']; simp)
          subst hr
          go_wp2
          refine wp_region_in S (by kernel_rfl) (by kernel_rfl) (unhide HSI _ ⟨?_, ?_, ?_, ?_, ?_, ?_, ?_, ?_, ?_⟩) ?_
          · go_keep
          · go_keep
          · go_keep
          · go_keep
          · go_keep
          · simp
          · simp; omega
          · simp; omega
          · exact below_drewN' ((unhide hb).alloc (unhide hb).size _) 1
          intro hne
          repeat (go_big_quiet_step (first | exact call_in _ (unhide HCB _) | exact call_in _ (unhide HCM _) | exact call_in _ (unhide HCQ _)))
          refine wpQuiet_nil ?_
          rintro _ ⟨g, rfl⟩
          have HG := hide (unhide HSE _ g.h).2.2.2.2.2.2.2.2
          go_wp2
          go_ret
          exact ⟨rfl, below_trans (unhide B1) (unhide HG)⟩
        cases oq
        · have hr : r = false := unhide HNO (by rw [unhide HBA, hlx, uq']; simp)
          subst hr
          go_wp2
          refine wp_region_in S (by kernel_rfl) (by kernel_rfl) (unhide HSI _ ⟨?_, ?_, ?_, ?_, ?_, ?_, ?_, ?_, ?_⟩) ?_
          · go_keep
          · go_keep
          · go_keep
          · go_keep
          · go_keep
          · simp
          · simp; omega
          · simp; omega
          · exact below_drewN' ((unhide hb).alloc (unhide hb).size _) 1
          intro hne
          repeat (go_big_quiet_step (first | exact call_in _ (unhide HCB _) | exact call_in _ (unhide HCM _) | exact call_in _ (unhide HCQ _)))
          refine wpQuiet_nil ?_
          rintro _ ⟨g, rfl⟩
          have HG := hide (unhide HSE _ g.h).2.2.2.2.2.2.2.2
          go_wp2
          go_ret
          exact ⟨rfl, below_trans (unhide B1) (unhide HG)⟩
        have hmb := Coin.okB_iff.1 (unhide HOM)
        have hqb := Coin.okB_iff.1 (unhide HOQ)
        have hd' : Hid (∀ j, j < k + 1 → badR l j = false) := hide (badR_next (unhide hd) (by rw [unhide HBA, hlx, um', uq']; simp))
        go_wp2
        refine wp_region_in S (by kernel_rfl) (by kernel_rfl) (unhide HSI _ ⟨?_, ?_, ?_, ?_, ?_, ?_, ?_, ?_, ?_⟩) ?_
        · go_keep
        · go_keep
        · go_keep
        · go_keep
        · go_keep
        · simp
        · simp; omega
        · simp; omega
        · exact below_drewN' ((unhide hb).alloc (unhide hb).size _) 1
        intro hne
        repeat (go_big_quiet_step (first | exact call_in _ (unhide HCB _) | exact call_in _ (unhide HCM _) | exact call_in _ (unhide HCQ _)))
        refine wpQuiet_nil ?_
        rintro _ ⟨g, rfl⟩
        have HG := hide (unhide HSE _ g.h).2.2.2.2.2.2.2.2
        obtain ⟨y1, y2, y3, _⟩ := unhide HSE _ g.h
        go_wp2
        exact ⟨⟨k + 1, by omega, by go_num, by rw [unhide HN1], by rw [unhide HN2], hd', HG⟩, by simp [intOf]; omega⟩
    · obtain rfl : k = l.length := by omega
      rw [List.take_length] at hsb ⊢
      have hok : okR l = true := okR_true h6 (fun j hj => unhide hd j hj)
      have HZ3 : Hid ((decide (net = netS l) && decide (tax = taxS l) && Coin.okB (netS l + taxS l) && decide (0 ≤ credit ∧ credit ≤ netS l + taxS l)) = r) := hide (by rw [← unhide HZ2, hok]; rfl)
      have B3 := hide (below_trans (unhide B1) (unhide hb))
      obtain ⟨e3, _⟩ := q2 3 _ rfl
      obtain ⟨e4, _⟩ := q2 4 _ rfl
      obtain ⟨e5, _⟩ := q2 5 _ rfl
      obtain ⟨⟨n1, n2⟩, t1, t2⟩ := hsb
      clear q2 hok HZ2 hd hb HNO'
      generalize netS l = N at *
      generalize taxS l = T at *
      by_cases hN : net = N
      · have bN : (N == net) = true := by simp [hN]
        by_cases hT : tax = T
        · have bT : (T == tax) = true := by simp [hT]
          cases hO : Coin.okB (N + T)
          · have hr : r = false := by rw [← unhide HZ3, hO]; simp
            subst hr
            clear hN hT
            go_wp2_with (first | (go_at_call 33; refine (Coin.okS _ _).mono ?_; rintro e w' ⟨rfl, hw⟩; subst hw; rw [hO]) | fail)
            go_ret
            exact ⟨rfl, unhide B3⟩
          · by_cases hC0 : 0 ≤ credit
            · have bC0 : decide (0 ≤ credit) = true := decide_eq_true hC0
              by_cases hC1 : credit ≤ N + T
              · have hr : r = true := by rw [← unhide HZ3, hO, decide_eq_true hN, decide_eq_true hT, decide_eq_true ⟨hC0, hC1⟩]; rfl
                have bC1 : decide (credit ≤ N + T) = true := decide_eq_true hC1
                subst hr
                clear hN hT
                go_wp2_with (first | (go_at_call 33; refine (Coin.okS _ _).mono ?_; rintro e w' ⟨rfl, hw⟩; subst hw; rw [hO]) | fail)
                go_ret
                exact ⟨rfl, unhide B3⟩
              · have hr : r = false := by rw [← unhide HZ3, decide_eq_false (show ¬ (0 ≤ credit ∧ credit ≤ N + T) from fun h => hC1 h.2)]; simp
                have bC1 : decide (credit ≤ N + T) = false := decide_eq_false hC1
                subst hr
                clear hN hT
                go_wp2_with (first | (go_at_call 33; refine (Coin.okS _ _).mono ?_; rintro e w' ⟨rfl, hw⟩; subst hw; rw [hO]) | fail)
                go_ret
                exact ⟨rfl, unhide B3⟩
            · have hr : r = false := by rw [← unhide HZ3, decide_eq_false (show ¬ (0 ≤ credit ∧ credit ≤ N + T) from fun h => hC0 h.1)]; simp
              have bC0 : decide (0 ≤ credit) = false := decide_eq_false hC0
              subst hr
              clear hN hT
              go_wp2_with (first | (go_at_call 33; refine (Coin.okS _ _).mono ?_; rintro e w' ⟨rfl, hw⟩; subst hw; rw [hO]) | fail)
              go_ret
              exact ⟨rfl, unhide B3⟩
        · have bT : (T == tax) = false := by simpa using fun h => hT h.symm
          have hr : r = false := by rw [← unhide HZ3, decide_eq_false hT]; simp
          subst hr
          clear hN hT
          go_wp2_with (fail)
          go_ret
          exact ⟨rfl, unhide B3⟩
      · have bN : (N == net) = false := by simpa using fun h => hN h.symm
        have hr : r = false := by rw [← unhide HZ3, decide_eq_false hN]; simp
        subst hr
        clear hN
        go_wp2_with (fail)
        go_ret
        exact ⟨rfl, unhide B3⟩
end Go.Proofs.YtkdaljonmkfdaaaGreatDoor.Bill
end
