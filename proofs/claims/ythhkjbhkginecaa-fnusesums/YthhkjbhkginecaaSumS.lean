/-
  spec.UseSums: what it answers.
-/
import Derived.Test.YthhkjbhkginecaaAppU
import Derived.Test.YthhkjbhkginecaaSumM
import Derived.Test.YthhkjbhkginecaaSumN
import Derived.Test.YthhkjbhkginecaaEvOk3
import Derived.Deep.RegionLaw
namespace Go.Proofs.Ythhkjbhkginecaa.Sums
set_option linter.unusedVariables false
open Go.RowKit Go.Maps MapM
open Uses (U U0 UOwn UC UR)
open Evs (E E0 hide unhide below_trans below_drewN' ER EC ltS ltS_iff)

theorem UR.drop {W : World} {b c : Nat} {l : List U} (h : UC W b 0 l) (p : Nat) (hp : p ≤ l.length) (c' : Nat) : UR W (.slice (some ⟨b, 0 + p * 2, none⟩) (l.length - p) c') (l.drop p) := by
  refine .inr ⟨b, 0 + p * 2, c', by simp, h.1, fun i hi => ?_⟩
  have hi' : p + i < l.length := by simp at hi; omega
  have e : (l.drop p).getD i U0 = l.getD (p + i) U0 := by simp [List.getD]
  have e2 : 0 + p * 2 + i * 2 = 0 + (p + i) * 2 := by omega
  rw [e, e2]
  exact h.2 (p + i) hi'
theorem run_dropU {w : World} {b : Nat} {l : List U} {p vc : Nat} (h : UC w b 0 l) (hp : p ≤ l.length) (hv : l.length ≤ vc) :
    ∃ a' c', (Instr.sliceAt 43 (.slice (some ⟨b, 0, none⟩) l.length vc) (some (.int .i64 (p : Int))) none none).run Try.prog w = .ok (.slice a' (l.length - p) c') w ∧ UR w (.slice a' (l.length - p) c') (l.drop p) := by
  have h0 : (0 : Int) ≤ (p : Int) := by omega
  have h1 : (p : Int) ≤ (l.length : Int) := by omega
  have h2 : (p : Int) ≤ (vc : Int) := by omega
  by_cases hpv : vc = p
  · have hlp : l.length = p := by omega
    subst hpv
    refine ⟨some ⟨b, 0, none⟩, 0, ?_, .inl ⟨by rw [List.drop_eq_nil_iff]; omega, _, _, by rw [hlp, Nat.sub_self]⟩⟩
    rw [hlp]
    go_simp
  · have := UR.drop (c := 0) h p hp (vc - p)
    rw [Nat.zero_add] at this
    exact ⟨some ⟨b, p * 2, none⟩, vc - p, by go_simp, this⟩
theorem wpList_dropU {ops : Array Oper} {o : Oper} {a : Act} {Q : Exit → Act → World → Prop} {w : World} {rest : List Oper} (hgd : o.guard = none) (s x : Operand) (ho : o.op = Op.slice 43 s (some x) none none)
    (b : Nat) (l : List U) (p vc n : Nat) (hn : n = l.length) (hs : a.eval s = .slice (some ⟨b, 0, none⟩) n vc) (hx : a.eval x = .int .i64 (p : Int)) (h : UC w b 0 l) (hp : p ≤ l.length) (hv : l.length ≤ vc)
    (hK : ∀ a' c', UR w (.slice a' (l.length - p) c') (l.drop p) → wpList Try.prog ops Q rest (a.put o.dst (.slice a' (l.length - p) c')) w) : wpList Try.prog ops Q (o :: rest) a w := by
  subst hn
  refine wpList_plain hgd fun K' hK' => ?_
  obtain ⟨a', c', hr, h2⟩ := run_dropU h hp hv
  unfold Oper.wp execOp
  simp only [ho, hs, hx, Option.map_some, Option.map_none, Sem.run_bind, hr, Result.andThen_ok, Sem.run_pure]
  exact hK' _ _ (hK a' c' h2)

theorem XU.mk0 {w : World} {B b : Nat} (hB : B ≤ w.heap.size) (hb : w.heap.size = b) : XU (w.alloc (.cells #[] 46)) B b 0 [] := by
  rw [← hb]; exact XU.made w B hB _ rfl
theorem srcNewU (w : World) (s : ByteArray) (q : Int) : UR (w.alloc (.cells #[.string s, .int .i64 q] 46)) (.slice (some ⟨w.heap.size, 0, none⟩) 1 1) [(s, q)] := by
  have e1 := (MapKept.heap_alloc w (.cells #[.string s, .int .i64 q] 46)).1
  refine .inr ⟨w.heap.size, 0, 1, rfl, by simp, fun i hi => ?_⟩
  have : i = 0 := by simpa using hi
  subst this
  simp only [World.cell?]
  rw [e1]
  exact ⟨rfl, rfl⟩

theorem below_drew1 {B : Nat} {a w : World} (h : Below B a w) : Below B a w.drew := ⟨h.os, h.tape, h.output, h.size, h.block⟩
theorem srcNU {w : World} {N : Nat} (hN : w.heap.size = N) (s : ByteArray) (q : Int) : UR (w.alloc (.cells #[.string s, .int .i64 q] 46)) (.slice (some ⟨N, 0, none⟩) 1 1) [(s, q)] := by
  rw [← hN]; exact srcNewU w s q
theorem XU.up {w : World} {B b c n : Nat} {l : List U} {o : Obj} (h : XU w B b c l) : XU ((w.drewN n).alloc o) B b c l := h.kept (Evs.growB ((below_drewN' (Below.refl _ _) n).alloc (by simp) _) none) (by simp)
theorem UR.grown1 {W W' : World} {B b c g : Nat} {l : List U} (h : XU W B b c l) (hg : W.grownBy W' (some g)) (hne : b ≠ g) {n : Nat} (hn : n = l.length) : UR W' (.slice (some ⟨b, 0, none⟩) n c) l := by
  subst hn
  exact (h.kept hg (by simpa using hne)).ur

/-- where the walk along the sums stands still -/
theorem posU_at {l : List U} {m : ByteArray} {k : Nat} (hk : k ≤ l.length) (h1 : ∀ i, i < k → ltS (l.getD i U0).1 m = true) (h2 : k < l.length → ltS (l.getD k U0).1 m = false) : posU l m = k := by
  refine pos_of keyU hk (fun i hi hik => ?_) (fun hn => ?_)
  · have := ltS_iff.1 (h1 i hik)
    simpa [List.getD, hi] using this
  · intro hlt
    have h3 := h2 hn
    have : ltS (l.getD k U0).1 m = true := ltS_iff.2 (by simpa [List.getD, hn] using hlt)
    rw [this] at h3
    simp at h3
theorem has_of {l : List U} {m : ByteArray} (ha : Asc keyU l) {k : Nat} (hp : posU l m = k) (hk : k < l.length) : hasU l m = decide ((l.getD k U0).1 = m) := by
  have hg : l.getD k U0 = l[k] := by simp [List.getD, hk]
  rw [hg]
  by_cases h : l[k].1 = m
  · rw [has_at hk h, decide_eq_true h]
  · rw [decide_eq_false h]
    cases hh : hasU l m with
    | false => rfl
    | true =>
      obtain ⟨hp', he⟩ := has_yes ha hh
      simp only [hp] at he
      exact absurd he h
theorem has_end {l : List U} {m : ByteArray} (ha : Asc keyU l) (hp : posU l m = l.length) : hasU l m = false := by
  cases hh : hasU l m with
  | false => rfl
  | true =>
    obtain ⟨hp', _⟩ := has_yes ha hh
    omega
/-- the new one is laid in, then it takes what is added -/
theorem add_laid {l : List U} {m : ByteArray} {q : Int} (h : hasU l m = false) : (l.take (posU l m) ++ [(m, 0)] ++ l.drop (posU l m)).set (posU l m) (m, 0 + q) = addU l m q := by
  have hp := pos_le keyU m.data.toList l
  rw [add_no h, List.append_assoc, List.set_append_right _ _ (by rw [List.length_take]; exact Nat.min_le_left _ _)]
  have : posU l m - (l.take (posU l m)).length = 0 := by
    rw [List.length_take]
    have : posU l m ≤ l.length := hp
    omega
  rw [this]
  simp

set_option maxRecDepth 100000 in
set_option maxHeartbeats 4000000 in
/-- spec.UseSums -/
theorem useSumsS (v : Value) (l : List E) (w : World) (h : ER w v l) (hl : l.length ≤ 1048576) (hs : ∀ u ∈ l, u.1.size ≤ maxLen ∧ u.2.1.size ≤ maxLen) :
    Calls Try.prog 23 #[v] w fun e w' => ∃ v', e = .returned v' ∧ UN w.heap.size w' v' (sumsO l) ∧ Below w.heap.size w w' := by
  have hb0 : Below w.heap.size w (w.alloc (.cells #[] 46)) := (Below.refl _ _).alloc (Nat.le_refl _) _
  have H := hide (h.kept hb0)
  have HS := hide hs
  obtain ⟨a, c, rfl⟩ := h.slice
  have hcase : l.length = 0 ∨ ∃ b o, a = some ⟨b, o, none⟩ ∧ EC w b o l := by
    rcases h with ⟨rfl, _⟩ | ⟨b, o, cap, hv, hc⟩
    · exact .inl rfl
    · simp only [Value.slice.injEq] at hv
      exact .inr ⟨b, o, hv.1, hc⟩
  clear h hs
  cases hok : Evs.okB l with
  | false =>
    have e1 : sumsO l = [] := by unfold sumsO; rw [hok]; rfl
    rw [e1]
    clear hcase
    go_enter Try.func23, Try.ntmps23
    go_wp2_with (fail)
    refine (Evs.okS _ l _ (unhide H) hl (unhide HS)).mono ?_
    rintro e w3 ⟨rfl, hb3⟩
    rw [hok]
    have B3 := hide (below_trans hb0 hb3)
    clear hb3
    go_wp2
    go_ret
    exact ⟨_, rfl, .inl ⟨rfl, _, _, rfl⟩, unhide B3⟩
  | true =>
    have e1 : sumsO l = sums l := by unfold sumsO; rw [hok]; rfl
    rw [e1]
    clear e1
    have hl20 := Evs.okB_len hok
    have HQ := hide (sums_bound l (okB_qty hok))
    have HQ2 := hide (okB_qty hok)
    have HAs := hide (sums_asc l)
    have HLn := hide (sums_len l)
    have X0 := hide (XU.made w w.heap.size (Nat.le_refl _) 46 rfl)
    rcases hcase with h0 | ⟨b, o, rfl, hc⟩
    · obtain rfl : l = [] := List.length_eq_zero_iff.1 h0
      clear h0 HQ HQ2 HAs HLn X0
      go_enter Try.func23, Try.ntmps23
      go_wp2_with (fail)
      refine (Evs.okS _ [] _ (unhide H) hl (unhide HS)).mono ?_
      rintro e w3 ⟨rfl, hb3⟩
      rw [hok]
      have B3 := hide (below_trans hb0 hb3)
      clear hb3
      go_wp2
      refine wp_loop_rounds 1 ?_
      rw [rounds_succ]
      go_wp2
      go_ret
      exact ⟨_, rfl, .inl ⟨rfl, _, _, rfl⟩, unhide B3⟩
    · have HC := hide hc
      have hbs := hc.1
      clear hc
      go_enter Try.func23, Try.ntmps23
      go_wp2_with (fail)
      refine (Evs.okS _ l _ (unhide H) hl (unhide HS)).mono ?_
      rintro e w1 ⟨rfl, hb1⟩
      rw [hok]
      have B1 := hide (below_trans hb0 hb1)
      have X1 := hide ((unhide X0).kept (Evs.growB hb1 none) (by simp))
      clear hb1 hok X0 hb0
      go_wp2_with (fail)
      go_loopw [3, 4] (fun to ti wr => ∃ i g c' : Nat, i ≤ l.length ∧ ti = .int .i64 i ∧ to = .slice (some ⟨g, 0, none⟩) (sums (l.take i)).length c' ∧ Hid (XU wr w.heap.size g c' (sums (l.take i))) ∧ Hid (Below w.heap.size w wr)) (fun _ ti _ => l.length - (intOf ti).toNat)
      case atStart => exact ⟨0, w.heap.size, 0, Nat.zero_le _, rfl, rfl, X1, B1⟩
      case round =>
        obtain ⟨i, g, c', hi, rfl, rfl, hX, hB⟩ := hrel
        clear X1 B1
        by_cases hlt : i < l.length
        · have HST := hide (sums_step hlt)
          have hSl := unhide HLn i hi
          have HSA := hide (unhide HAs i hi)
          have HSQ := hide (unhide HQ i hi)
          obtain ⟨q0, q1⟩ : 0 ≤ (l.getD i E0).2.2 ∧ (l.getD i E0).2.2 ≤ 1000000000 := unhide HQ2 _ (by simp [List.getD, hlt])
          have HCC : Hid (∀ W, Below w.heap.size w W → W.cell? ⟨b, o + i * 3 + 1, none⟩ = some (.string (l.getD i E0).2.1) ∧ W.cell? ⟨b, o + i * 3 + 2, none⟩ = some (.int .i64 (l.getD i E0).2.2)) := hide (fun W hW => (((unhide HC).kept hW).2 i hlt).2)
          have i1 : (0 : Int) ≤ (i : Int) := by omega
          have i2 : (i : Int) < (l.length : Int) := by omega
          generalize sums (l.take i) = S at *
          generalize (l.getD i E0).2.1 = m at *
          generalize (l.getD i E0).2.2 = q at *
          go_wp2
          go_loopw [5] (fun t wr2 => ∃ k : Nat, k ≤ S.length ∧ t = .int .i64 k ∧ Hid (∀ j, j < k → ltS (S.getD j U0).1 m = true) ∧ Hid (XU wr2 w.heap.size g c' S) ∧ Hid (Below w.heap.size w wr2)) (fun t _ => S.length - (intOf t).toNat)
          case atStart => exact ⟨0, Nat.zero_le _, rfl, hide (fun j hj => by omega), hX, hB⟩
          case round =>
            obtain ⟨k, hk, rfl, hlo, hX2, hB2⟩ := hrel
            clear hX hB
            have hcap := (unhide hX2).cap
            have hgw := (unhide hX2).own.1
            obtain ⟨l1, l2⟩ := unhide HCC _ (unhide hB2)
            by_cases hkl : k < S.length
            · obtain ⟨s0, s1⟩ := (unhide hX2).own.2.1.2 k hkl
              have f1 := (unhide hX2).own.2.2 (k * 2 + 1)
              rw [Nat.zero_add] at s0 s1
              have k1 : (0 : Int) ≤ (k : Int) := by omega
              have k2 : (k : Int) < (S.length : Int) := by omega
              have k3 : ((k : Int) == (S.length : Int)) = false := by simp; omega
              cases hls : ltS (S.getD k U0).1 m with
              | true =>
                have hlo2 : Hid (∀ j, j < k + 1 → ltS (S.getD j U0).1 m = true) := hide (fun j hj => by
                  by_cases e : j = k
                  · subst e; exact hls
                  · exact unhide hlo j (by omega))
                clear hlo
                generalize (S.getD k U0).1 = sk at *
                generalize (S.getD k U0).2 = sq at *
                go_wp2
                go_quiet (fail)
                go_wp2
                exact ⟨⟨k + 1, by omega, by go_num, hlo2, hide ((unhide hX2).kept (Evs.growB (below_drewN' (Below.refl _ _) _) none) (by simp)), hide (below_drewN' (unhide hB2) _)⟩, by simp [intOf]; omega⟩
              | false =>
                have HP : Hid (posU S m = k) := hide (posU_at hk (unhide hlo) (fun _ => hls))
                have HHA := hide (has_of (unhide HSA) (unhide HP) hkl)
                have qb : 0 ≤ (S.getD k U0).2 ∧ (S.getD k U0).2 ≤ (i : Int) * 1000000000 := unhide HSQ _ (by simp [List.getD, hkl])
                by_cases hm : (S.getD k U0).1 = m
                · have hyes : Hid (hasU S m = true) := hide ((unhide HHA).trans (decide_eq_true hm))
                  have HX3 : Hid (∀ n, XU ((wr.drewN n).setCell ⟨g, k * 2 + 1, none⟩ (.int .i64 ((S.getD k U0).2 + q))) w.heap.size g c' (addU S m q)) := hide (fun n => by
                    have hX3 := ((unhide hX2).kept (Evs.growB (below_drewN' (Below.refl _ _) n) none) (by simp)).setQ hkl ((S.getD k U0).2 + q)
                    rw [hm] at hX3
                    rw [add_yes (unhide hyes), lk_yes (unhide hyes), unhide HP]; exact hX3)
                  have HLE : Hid ((addU S m q).length = S.length) := hide (by rw [add_yes (unhide hyes), List.length_set])
                  rw [hm] at s0 hls
                  have mm : (!m.toList == m.toList) = false := by simp
                  clear HHA hm hyes hlo
                  generalize (S.getD k U0).2 = r at *
                  go_wp2
                  go_quiet (fail)
                  go_wp2
                  go_quiet (fail)
                  go_wp2
                  go_region
                  go_wp2
                  exact ⟨⟨i + 1, g, c', by omega, by go_num, by rw [unhide HST, unhide HLE], by rw [unhide HST]; exact hide (unhide HX3 _), hide ((below_drewN' (unhide hB2) _).setCell (p := ⟨g, k * 2 + 1, none⟩) hgw _)⟩, by simp [intOf]; omega⟩
                · have hno : Hid (hasU S m = false) := hide ((unhide HHA).trans (decide_eq_false hm))
                  have mm : ((S.getD k U0).1.toList == m.toList) = false := by
                    rw [beq_eq_false_iff_ne]; intro e; exact hm (Uses.ext_toList e)
                  have HLE : Hid ((addU S m q).length = S.length + 1) := hide (by
                    rw [← add_laid (unhide hno), unhide HP]; simp; omega)
                  have HAD := hide (add_laid (q := q) (unhide hno))
                  rw [unhide HP] at HAD
                  clear HHA hm hlo hno
                  generalize (S.getD k U0).1 = sk at *
                  generalize (S.getD k U0).2 = sq at *
                  have kc : (k : Int) ≤ (c' : Int) := by omega
                  go_wp2
                  go_quiet (fail)
                  go_wp2
                  go_quiet (fail)
                  go_wp2_with (first | (refine wpList_dropU rfl _ _ rfl g S k c' S.length rfl rfl rfl ((unhide hX2).kept (Evs.growB ((below_drewN' (Below.refl wr.heap.size wr) _).alloc (by simp) _) none) (by simp)).own.2.1 hk hcap ?_; intro a8 c8 h8; have H8 := hide h8; clear h8) | (at_builtin; refine listAppU _ rfl _ _ rfl w.heap.size wr.heap.size 0 0 [] (S.drop k) _ rfl rfl (XU.mk0 (by simpa using (unhide hB2).size) (by simp)) rfl (unhide H8) (by simp; omega) (by simpa using Nat.le_succ_of_le (unhide hB2).size) ?_; intro b2 k2 w2 hx2 hg2 hat2 hlt2; have X2 := hide hx2; have G2 := hide hg2; clear hx2 hg2) | fail)
                  have BW : Below wr.heap.size wr w2 := ((below_drewN' (Below.refl wr.heap.size wr) _).alloc (by simp) _).grown (unhide G2) (by simp) (fun j hj => by cases hj; exact Nat.le_refl _)
                  have X3 := hide ((unhide hX2).kept (Evs.growB BW none) (by simp))
                  have B3 := hide (below_trans (unhide hB2) BW)
                  have hgl := (unhide hX2).own.2.1.1
                  have hb2 : b2 ≠ g ∧ w.heap.size ≤ b2 := by
                    have := (unhide hB2).size
                    rcases hat2 with rfl | rfl
                    · omega
                    · simp; omega
                  have m1 := (unhide HCC _ (unhide B3)).1
                  rw [List.nil_append] at X2
                  have hln2 : (S.drop k).length = S.length - k := List.length_drop
                  clear G2 hat2 hlt2 hX2 hB2 l1 l2 H8 BW
                  have ml : ∀ n, (w2.drewN n).cell? ⟨b, o + i * 3 + 1, none⟩ = some (.string m) := fun n => m1
                  go_wp2
                  go_region_law (first
                    | (refine stepAppU _ rfl _ _ rfl w.heap.size b7 c7 (k + 1) (S.take k ++ [(m, 0)]) (S.drop k) _ (by simp; omega) (by first | rfl | simp) hx7 rfl (UR.grown1 (XU.up (unhide X2)) hg7 hb2.1 (by first | rfl | omega | simp)) (by simp; omega) (Nat.le_trans (Nat.le_trans (unhide B3).size (by simp)) hg7.size) ?_; intro b8 c8' w8 hx8 hg8 hat8 hlt8)
                    | (refine stepAppU _ rfl _ _ rfl w.heap.size g c' k (S.take k) [(m, 0)] _ (by simp; omega) (by first | rfl | simp) ((XU.up (unhide X3)).take k hk) rfl (srcNU (by simp) m 0) (by simp; omega) (Nat.le_trans (unhide B3).size (by simp)) ?_; intro b7 c7 w7 hx7 hg7 hat7 hlt7))
                  have hb7 : w.heap.size ≤ b7 := hx7.own.1
                  have B8 : Hid (Below w.heap.size w w8) := hide (((below_drew1 ((unhide B3).alloc (unhide B3).size _)).grown hg7 (by have := (unhide B3).size; simp; omega) (fun j hj => by cases hj; exact hgw)).grown hg8 (Nat.le_trans (Nat.le_trans (unhide B3).size (by simp)) hg7.size) (fun j hj => by cases hj; exact hb7))
                  have hlen8 : (S.take k ++ [(m, (0 : Int))] ++ S.drop k).length = S.length + 1 := by simp; omega
                  have hk8 : k < (S.take k ++ [(m, (0 : Int))] ++ S.drop k).length := by omega
                  have hgd : (S.take k ++ [(m, (0 : Int))] ++ S.drop k).getD k U0 = (m, 0) := by
                    have e1 : (S.take k).length = k := by simp; omega
                    rw [List.getD, List.append_assoc, List.getElem?_append_right (by omega), e1, Nat.sub_self]
                    rfl
                  have HX9 : Hid (∀ n, XU ((w8.drewN n).setCell ⟨b8, k * 2 + 1, none⟩ (.int .i64 (0 + q))) w.heap.size b8 c8' (addU S m q)) := hide (fun n => by
                    have hX3 := (hx8.kept (Evs.growB (below_drewN' (Below.refl _ _) n) none) (by simp)).setQ hk8 (0 + q)
                    rw [hgd, unhide HAD] at hX3
                    exact hX3)
                  obtain ⟨_, s1⟩ := hx8.own.2.1.2 k hk8
                  have f1 := hx8.own.2.2 (k * 2 + 1)
                  rw [hgd, Nat.zero_add] at s1
                  have m2 := (unhide HCC _ (unhide B8)).2
                  have hb8 : w.heap.size ≤ b8 := hx8.own.1
                  have hn8 : k + 1 + (S.length - k) = S.length + 1 := by omega
                  have k5 : (k : Int) < ((S.length + 1 : Nat) : Int) := by omega
                  rw [Int.zero_add] at HX9
                  rw [hn8]
                  clear hx7 hg7 hat7 hlt7 hx8 hg8 hat8 hlt8 X2 X3 B3 m1 ml hgd hk8 hlen8 HAD hn8
                  go_wp2
                  go_region
                  go_wp2
                  exact ⟨⟨i + 1, b8, c8', by omega, by go_num, by rw [unhide HST, unhide HLE], by rw [unhide HST]; exact hide (unhide HX9 _), hide ((below_drewN' (unhide B8) _).setCell (p := ⟨b8, k * 2 + 1, none⟩) hb8 _)⟩, by simp [intOf]; omega⟩
            · have k1 : (0 : Int) ≤ (k : Int) := by omega
              have k2' : decide ((k : Int) < (S.length : Int)) = false := by simp; omega
              have k3 : ((k : Int) == (S.length : Int)) = true := by simp; omega
              have HP : Hid (posU S m = k) := hide (posU_at hk (unhide hlo) (fun h => absurd h hkl))
              have hke : k = S.length := by omega
              have hno : Hid (hasU S m = false) := hide (has_end (unhide HSA) ((unhide HP).trans hke))
              have HLE : Hid ((addU S m q).length = S.length + 1) := hide (by
                rw [← add_laid (unhide hno), unhide HP]; simp; omega)
              have HAD := hide (add_laid (q := q) (unhide hno))
              rw [unhide HP] at HAD
              clear hlo hno hke
              have kc : (k : Int) ≤ (c' : Int) := by omega
              go_wp2
              go_quiet (fail)
              go_wp2
              go_quiet (fail)
              go_wp2_with (first | (refine wpList_dropU rfl _ _ rfl g S k c' S.length rfl rfl rfl ((unhide hX2).kept (Evs.growB ((below_drewN' (Below.refl wr.heap.size wr) _).alloc (by simp) _) none) (by simp)).own.2.1 hk hcap ?_; intro a8 c8 h8; have H8 := hide h8; clear h8) | (at_builtin; refine listAppU _ rfl _ _ rfl w.heap.size wr.heap.size 0 0 [] (S.drop k) _ rfl rfl (XU.mk0 (by simpa using (unhide hB2).size) (by simp)) rfl (unhide H8) (by simp; omega) (by simpa using Nat.le_succ_of_le (unhide hB2).size) ?_; intro b2 k2 w2 hx2 hg2 hat2 hlt2; have X2 := hide hx2; have G2 := hide hg2; clear hx2 hg2) | fail)
              have BW : Below wr.heap.size wr w2 := ((below_drewN' (Below.refl wr.heap.size wr) _).alloc (by simp) _).grown (unhide G2) (by simp) (fun j hj => by cases hj; exact Nat.le_refl _)
              have X3 := hide ((unhide hX2).kept (Evs.growB BW none) (by simp))
              have B3 := hide (below_trans (unhide hB2) BW)
              have hgl := (unhide hX2).own.2.1.1
              have hb2 : b2 ≠ g ∧ w.heap.size ≤ b2 := by
                have := (unhide hB2).size
                rcases hat2 with rfl | rfl
                · omega
                · simp; omega
              have m1 := (unhide HCC _ (unhide B3)).1
              rw [List.nil_append] at X2
              have hln2 : (S.drop k).length = S.length - k := List.length_drop
              clear G2 hat2 hlt2 hX2 hB2 l1 l2 H8 BW
              have ml : ∀ n, (w2.drewN n).cell? ⟨b, o + i * 3 + 1, none⟩ = some (.string m) := fun n => m1
              go_wp2
              go_region_law (first
                | (refine stepAppU _ rfl _ _ rfl w.heap.size b7 c7 (k + 1) (S.take k ++ [(m, 0)]) (S.drop k) _ (by simp; omega) (by first | rfl | simp) hx7 rfl (UR.grown1 (XU.up (unhide X2)) hg7 hb2.1 (by first | rfl | omega | simp)) (by simp; omega) (Nat.le_trans (Nat.le_trans (unhide B3).size (by simp)) hg7.size) ?_; intro b8 c8' w8 hx8 hg8 hat8 hlt8)
                | (refine stepAppU _ rfl _ _ rfl w.heap.size g c' k (S.take k) [(m, 0)] _ (by simp; omega) (by first | rfl | simp) ((XU.up (unhide X3)).take k hk) rfl (srcNU (by simp) m 0) (by simp; omega) (Nat.le_trans (unhide B3).size (by simp)) ?_; intro b7 c7 w7 hx7 hg7 hat7 hlt7))
              have hb7 : w.heap.size ≤ b7 := hx7.own.1
              have B8 : Hid (Below w.heap.size w w8) := hide (((below_drew1 ((unhide B3).alloc (unhide B3).size _)).grown hg7 (by have := (unhide B3).size; simp; omega) (fun j hj => by cases hj; exact hgw)).grown hg8 (Nat.le_trans (Nat.le_trans (unhide B3).size (by simp)) hg7.size) (fun j hj => by cases hj; exact hb7))
              have hlen8 : (S.take k ++ [(m, (0 : Int))] ++ S.drop k).length = S.length + 1 := by simp; omega
              have hk8 : k < (S.take k ++ [(m, (0 : Int))] ++ S.drop k).length := by omega
              have hgd : (S.take k ++ [(m, (0 : Int))] ++ S.drop k).getD k U0 = (m, 0) := by
                have e1 : (S.take k).length = k := by simp; omega
                rw [List.getD, List.append_assoc, List.getElem?_append_right (by omega), e1, Nat.sub_self]
                rfl
              have HX9 : Hid (∀ n, XU ((w8.drewN n).setCell ⟨b8, k * 2 + 1, none⟩ (.int .i64 (0 + q))) w.heap.size b8 c8' (addU S m q)) := hide (fun n => by
                have hX3 := (hx8.kept (Evs.growB (below_drewN' (Below.refl _ _) n) none) (by simp)).setQ hk8 (0 + q)
                rw [hgd, unhide HAD] at hX3
                exact hX3)
              obtain ⟨_, s1⟩ := hx8.own.2.1.2 k hk8
              have f1 := hx8.own.2.2 (k * 2 + 1)
              rw [hgd, Nat.zero_add] at s1
              have m2 := (unhide HCC _ (unhide B8)).2
              have hb8 : w.heap.size ≤ b8 := hx8.own.1
              have hn8 : k + 1 + (S.length - k) = S.length + 1 := by omega
              have k5 : (k : Int) < ((S.length + 1 : Nat) : Int) := by omega
              rw [Int.zero_add] at HX9
              rw [hn8]
              clear hx7 hg7 hat7 hlt7 hx8 hg8 hat8 hlt8 X2 X3 B3 m1 ml hgd hk8 hlen8 HAD hn8
              go_wp2
              go_region
              go_wp2
              exact ⟨⟨i + 1, b8, c8', by omega, by go_num, by rw [unhide HST, unhide HLE], by rw [unhide HST]; exact hide (unhide HX9 _), hide ((below_drewN' (unhide B8) _).setCell (p := ⟨b8, k * 2 + 1, none⟩) hb8 _)⟩, by simp [intOf]; omega⟩
        · obtain rfl : i = l.length := by omega
          rw [List.take_length] at hX ⊢
          go_wp2
          go_ret
          exact ⟨_, rfl, .inr ⟨g, c', rfl, ⟨(unhide hX).own.1, (unhide hX).cap⟩, (unhide hX).own.2⟩, unhide hB⟩
end Go.Proofs.Ythhkjbhkginecaa.Sums
