/-
  The law FnUseOnce: an event that is put is there once; put again it turns nothing.
-/
import Derived.Test.YthhkjbhkginecaaDrawPt
import Derived.Test.YthhkjbhkginecaaPutM
import Derived.Test.YthhkjbhkginecaaLawBack
namespace Go.Proofs.Ythhkjbhkginecaa.Evs
set_option linter.unusedVariables false
open Go.RowKit

theorem putO_bad {l : List E} {e : E} (h : okB l = false) : putO l e = [] ∧ putD l e = 4 := by
  unfold putO putD
  rw [h]
  exact ⟨rfl, rfl⟩
theorem EN.slice {B : Nat} {W : World} {v : Value} {l : List E} (h : EN B W v l) : ∃ a c, v = .slice a l.length c := h.er.slice

set_option maxHeartbeats 8000000 in
set_option maxRecDepth 100000 in
theorem useOnce (a0 : Option Addr) (len0 cap0 : Nat) (w : World) (hB : Draw.Bytes w a0 len0 cap0) :
    Calls Try.prog 4 #[.slice a0 len0 cap0] w fun e w' => e = .returned (.bool true) ∧ Below w.heap.size w w' := by
  by_cases hl : 1048576 < len0
  · go_enter Try.func4, Try.ntmps4
    go_wp2
    go_ret
    exact ⟨rfl, Below.refl _ _⟩
  go_enter Try.func4, Try.ntmps4
  go_wp2_with fail
  refine (Draw.drawPut a0 len0 cap0 w hB).mono ?_
  rintro x w1 ⟨v, ⟨s, m, q⟩, rfl, l, hl25, hE, hgd, hge, hb1⟩
  have ba := Draw.below_alloc w1 (.cells #[.string s, .string m, .int .i64 q] 31)
  have E1 := hide (hE.kept ba)
  have B1 := hide (below_trans hb1 ba)
  have z1 : w1.heap.size < (w1.alloc (.cells #[.string s, .string m, .int .i64 q] 31)).heap.size := by simp
  obtain ⟨n0, n1, n2, _⟩ := Draw.EOwn.at0 (Draw.EOwn.new1 w1 (s, m, q) 31)
  have HS : Hid (∀ u ∈ l, u.1.size ≤ maxLen ∧ u.2.1.size ≤ maxLen) := hide (fun u hu => (hgd u hu).size)
  obtain ⟨g1, g2⟩ := hge.size
  have HBX : Hid (∀ W, Below (w1.alloc (.cells #[.string s, .string m, .int .i64 q] 31)).heap.size (w1.alloc (.cells #[.string s, .string m, .int .i64 q] 31)) W → W.cell? ⟨w1.heap.size, 0, none⟩ = some (.string s) ∧ W.cell? ⟨w1.heap.size, 1, none⟩ = some (.string m) ∧ W.cell? ⟨w1.heap.size, 2, none⟩ = some (.int .i64 q)) := hide (fun W hW => ⟨(hW.cell (p := ⟨w1.heap.size, 0, none⟩) z1).trans n0, (hW.cell (p := ⟨w1.heap.size, 1, none⟩) z1).trans n1, (hW.cell (p := ⟨w1.heap.size, 2, none⟩) z1).trans n2⟩)
  have HO := hide (Draw.putO_good hgd (e := (s, m, q)) hge)
  have hpl := Draw.putO_len (l := l) (e := (s, m, q))
  clear hB hl hE hb1 hgd hge ba z1 n0 n1 n2
  have HX1 := hide (usePutI v l (s, m, q) (w1.alloc (.cells #[.string s, .string m, .int .i64 q] 31)) (unhide E1).er (by omega) (unhide HS) g1 g2)
  have HX2 := hide (fun W (hW : EN w.heap.size W v l) => usePutS v l (s, m, q) W hW.er (by omega) (unhide HS) g1 g2 hW.cap)
  have HX3 : Hid (∀ (W : World) (u : Value), ER W u (putO l (s, m, q)) → Calls Try.prog 12 #[u, .agg #[.string s, .string m, .int .i64 q]] W fun x w' => ∃ v', x = .returned (.tuple #[v', .int .i64 (putD (putO l (s, m, q)) (s, m, q))]) ∧ EN W.heap.size w' v' (putO (putO l (s, m, q)) (s, m, q)) ∧ Below W.heap.size W w') := hide (fun W u hu => usePutI u (putO l (s, m, q)) (s, m, q) W hu (by omega) (fun x hx => (unhide HO x hx).size) g1 g2)
  have HTW : Hid (okB l = true → putO (putO l (s, m, q)) (s, m, q) = putO l (s, m, q) ∧ (putD l (s, m, q) ≠ 0 → putD (putO l (s, m, q)) (s, m, q) = putD l (s, m, q)) ∧ (putD l (s, m, q) = 0 → putD (putO l (s, m, q)) (s, m, q) = 1)) := hide put_twice
  have HOK : Hid (okB l = true → okB (putO l (s, m, q)) = true) := hide put_ok
  have HOL : Hid (okB l = true → putD l (s, m, q) ≠ 0 → putO l (s, m, q) = l) := hide put_old'
  have HLE : Hid (okB l = true → putD l (s, m, q) = 0 → (putO l (s, m, q)).length = l.length + 1) := hide put_len
  have HBD : Hid (okB l = false → putO l (s, m, q) = [] ∧ putD l (s, m, q) = 4) := hide putO_bad
  generalize putD (putO l (s, m, q)) (s, m, q) = D2 at *
  generalize putO (putO l (s, m, q)) (s, m, q) = O2 at *
  generalize putD l (s, m, q) = D at *
  generalize putO l (s, m, q) = O at *
  go_wp2_with fail
  refine (unhide HX1).mono ?_
  rintro x w2 ⟨gv, rfl, n2, hb2⟩
  have E2 := hide ((unhide E1).kept hb2)
  have N2 := hide n2
  have B2 := hide (below_trans (unhide B1) hb2)
  have Q2 := hide hb2
  obtain ⟨c0, c1, c2⟩ := unhide HBX _ hb2
  clear E1 n2 hb2 B1 HX1
  go_wp2_with fail
  refine (unhide HX2 _ (unhide E2)).mono ?_
  rintro x w3 ⟨sv, rfl, n3, hb3⟩
  have E3 := hide ((unhide E2).kept hb3)
  have N3 := hide ((unhide N2).kept hb3)
  have M3 := hide n3.er
  have B3 := hide (below_trans (unhide B2) hb3)
  have Q3 := hide (below_trans (unhide Q2) hb3)
  clear E2 N2 hb3 B2 n3 Q2 HX2 c0 c1 c2
  have hx : (D != D) = false := by simp
  go_wp2_with fail
  refine (wuSame gv sv O _ (unhide N3).er (unhide M3) (by omega)).mono ?_
  rintro x w4 ⟨rfl, hb4⟩
  have E4 := hide ((unhide E3).kept hb4)
  have N4 := hide ((unhide N3).kept hb4)
  have B4 := hide (below_trans (unhide B3) hb4)
  have Q4 := hide (below_trans (unhide Q3) hb4)
  clear E3 N3 hb4 B3 Q3 M3
  go_wp2_with fail
  refine (okI v l _ (unhide E4).er (by omega) (unhide HS)).mono ?_
  rintro x w5 ⟨rfl, hb5⟩
  have E5 := hide ((unhide E4).kept hb5)
  have N5 := hide ((unhide N4).kept hb5)
  have B5 := hide (below_trans (unhide B4) hb5)
  have Q5 := hide (below_trans (unhide Q4) hb5)
  clear E4 N4 hb5 B4 Q4
  go_wp2_with fail
  refine (okS v l _ (unhide E5).er (by omega) (unhide HS)).mono ?_
  rintro x w6 ⟨rfl, hb6⟩
  have E6 := hide ((unhide E5).kept hb6)
  have N6 := hide ((unhide N5).kept hb6)
  have B6 := hide (below_trans (unhide B5) hb6)
  have Q6 := hide (below_trans (unhide Q5) hb6)
  clear E5 N5 hb6 B5 Q5
  have hbb : (okB l != okB l) = false := by simp
  go_wp2_with fail
  refine (okS v l _ (unhide E6).er (by omega) (unhide HS)).mono ?_
  rintro x w7 ⟨rfl, hb7⟩
  have E7 := hide ((unhide E6).kept hb7)
  have N7 := hide ((unhide N6).kept hb7)
  have B7 := hide (below_trans (unhide B6) hb7)
  have Q7 := hide (below_trans (unhide Q6) hb7)
  clear E6 N6 hb7 B6 Q6
  cases hok : okB l with
  | false =>
    obtain ⟨rfl, rfl⟩ := unhide HBD hok
    obtain ⟨ga, gc, rfl⟩ := (unhide N7).slice
    clear hbb
    go_wp2
    go_ret
    exact ⟨rfl, unhide B7⟩
  | true =>
    obtain ⟨t1, t2, t3⟩ := unhide HTW hok
    obtain ⟨c0, c1, c2⟩ := unhide HBX _ (unhide Q7)
    have HX7 := hide (unhide HX3 _ gv (unhide N7).er)
    subst t1
    clear hbb HX3 HTW HBD
    go_wp2_with fail
    refine (unhide HX7).mono ?_
    rintro x w8 ⟨zv, rfl, n8, hb8⟩
    have E8 := hide ((unhide E7).kept hb8)
    have N8 := hide ((unhide N7).kept hb8)
    have Z8 := hide n8.er
    have B8 := hide (below_trans (unhide B7) hb8)
    clear E7 N7 hb8 B7 Q7 n8 HX7 c0 c1 c2
    by_cases hD : D = 0
    · have hlen := unhide HLE hok hD
      have hokO := unhide HOK hok
      have hD2 := t3 hD
      subst hD hD2
      obtain ⟨va, vc, rfl⟩ := (unhide E8).slice
      obtain ⟨ga, gc, hgv⟩ := (unhide N8).slice
      rw [hlen] at hgv
      subst hgv
      have hll : (((l.length + 1 : Nat) : Int) != (l.length : Int) + 1) = false := by simp
      have HOS : Hid (∀ u ∈ O2, u.1.size ≤ maxLen ∧ u.2.1.size ≤ maxLen) := hide (fun u hu => (unhide HO u hu).size)
      clear t2 t3 HOK HOL HLE hx hlen
      go_wp2_with fail
      refine (okI _ O2 _ (unhide N8).er (by omega) (unhide HOS)).mono ?_
      rintro x w9 ⟨rfl, hb9⟩
      rw [hokO]
      have N9 := hide ((unhide N8).kept hb9).er
      have Z9 := hide ((unhide Z8).kept hb9)
      have B9 := hide (below_trans (unhide B8) hb9)
      clear hb9 N8 Z8 B8
      go_wp2_with fail
      refine (wuSame _ _ O2 _ (unhide Z9) (unhide N9) (by omega)).mono ?_
      rintro x w10 ⟨rfl, hb10⟩
      have B10 := hide (below_trans (unhide B9) hb10)
      clear hb10 B9
      go_wp2
      go_ret
      exact ⟨rfl, unhide B10⟩
    · have hOl := unhide HOL hok hD
      have hD2 := t2 hD
      subst hOl hD2
      have d1 : (D2 != 0) = true := by simpa using hD
      have d2 : (D2 == 0) = false := by simpa using hD
      have d3 : (D2 == D2) = true := by simp
      clear t2 t3 HOK HOL HLE
      go_wp2_with fail
      refine (okI _ O2 _ (unhide N8).er (by omega) (unhide HS)).mono ?_
      rintro x w9 ⟨rfl, hb9⟩
      rw [hok]
      have E9 := hide ((unhide E8).kept hb9).er
      have N9 := hide ((unhide N8).kept hb9).er
      have Z9 := hide ((unhide Z8).kept hb9)
      have B9 := hide (below_trans (unhide B8) hb9)
      clear hb9 N8 Z8 B8 E8
      go_wp2_with fail
      refine (wuSame _ _ O2 _ (unhide N9) (unhide E9) (by omega)).mono ?_
      rintro x w10 ⟨rfl, hb10⟩
      have N10 := hide ((unhide N9).kept hb10)
      have Z10 := hide ((unhide Z9).kept hb10)
      have B10 := hide (below_trans (unhide B9) hb10)
      clear hb10 B9 N9 Z9
      go_wp2_with fail
      refine (wuSame _ _ O2 _ (unhide Z10) (unhide N10) (by omega)).mono ?_
      rintro x w11 ⟨rfl, hb11⟩
      have B11 := hide (below_trans (unhide B10) hb11)
      clear hb11 B10
      go_wp2
      go_ret
      exact ⟨rfl, unhide B11⟩
end Go.Proofs.Ythhkjbhkginecaa.Evs
