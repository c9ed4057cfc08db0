/-
  FnChainTail.
-/
import Derived.Test.YtgaflnkefjmblaaDrawTx
import Derived.Test.YtgaflnkefjmblaaHeadsS
import Derived.Test.YtgaflnkefjmblaaHeadsC
namespace Go.Proofs.Ytgaflnkefjmblaa.Chain
set_option linter.unusedVariables false
open Go.RowKit
open Txt (S0 TC TR)
open Draw (Bytes drawHead drawHeads TN IsTx listAppTx grown_far)

theorem isTx_sz {l : List ByteArray} (h : IsTx l) : l.length ≤ maxLen ∧ (∀ u ∈ l, u.size ≤ 100000000) ∧ cnt l = l.length := by
  refine ⟨by have := h.1; unfold maxLen; omega, fun u hu => by have := h.2 u hu; omega, ?_⟩
  have := h.1
  unfold cnt; rw [if_pos (by omega)]
theorem app_sz {l m : List ByteArray} (h : IsTx l) (k : IsTx m) : (l ++ m).length ≤ maxLen ∧ (∀ u ∈ l ++ m, u.size ≤ 100000000) ∧ cnt (l ++ m) = l.length + m.length := by
  have h1 := h.1
  have k1 := k.1
  refine ⟨by unfold maxLen; simp; omega, fun u hu => ?_, ?_⟩
  · rcases List.mem_append.1 hu with hu | hu
    · have := h.2 u hu; omega
    · have := k.2 u hu; omega
  · unfold cnt; rw [if_pos (by simp; omega)]; simp
theorem at_headN {W : World} {B g c : Nat} {A : List ByteArray} (h : Ints.Own W B g c (headsF A)) {i : Nat} (hi : i ≤ cnt A) : W.cell? ⟨g, i, none⟩ = some (.int .i64 (hdK A i)) := by
  have := h.at_ (j := i) (by rw [headsF_len]; omega)
  rwa [headsF_at A hi] at this
theorem hdK_on {l m : List ByteArray} {i : Nat} (hi : i < m.length) : hdK (l ++ m) (l.length + i + 1) = mixL (hdK (l ++ m) (l.length + i)) (m.getD i S0).data.toList := by
  rw [hdK_succ (by simp; omega)]
  have : (l ++ m).getD (l.length + i) S0 = m.getD i S0 := by
    simp [List.getD, List.getElem?_append_right]
  rw [this]; rfl
theorem head_all (l : List ByteArray) {n : Nat} (h : cnt l = n) : headF l = hdK l n := by unfold headF; rw [h]
theorem drewN_b {B : Nat} {a W : World} (h : Below B a W) (n : Nat) : Below B a (W.drewN n) := ⟨h.os, h.tape, h.output, h.size, h.block⟩

set_option maxHeartbeats 8000000 in
theorem lawTail (a : Option Addr) (len cap : Nat) (a' : Option Addr) (len' cap' : Nat) (w : World) (h : Bytes w a len cap) (h' : Bytes w a' len' cap') :
    Calls Try.prog 5 #[.slice a len cap, .slice a' len' cap'] w fun e w' => e = .returned (.bool true) ∧ Below w.heap.size w w' := by
  have HB := hide h
  have HB' := hide h'
  obtain ⟨l1, l2, l3⟩ := h
  obtain ⟨l1', l2', l3'⟩ := h'
  clear l3 l3'
  by_cases hbig : 1048576 < len
  · go_enter Try.func5, Try.ntmps5
    go_wp2
    go_ret
    exact ⟨rfl, Below.refl _ _⟩
  by_cases hbig' : 1048576 < len'
  · go_enter Try.func5, Try.ntmps5
    go_wp2
    go_ret
    exact ⟨rfl, Below.refl _ _⟩
  go_enter Try.func5, Try.ntmps5
  go_wp2_with fail
  refine (drawHeads a len cap w (unhide HB)).mono ?_
  rintro e w1 ⟨va, A, rfl, ta, iA, b1⟩
  obtain ⟨xa, ca, rfl⟩ := ta.form
  have TA := hide ta.tr
  have IA := hide iA
  have HB1 := hide ((unhide HB').kept b1)
  clear ta iA HB HB'
  go_wp2_with fail
  refine (drawHead a' len' cap' w1 (unhide HB1)).mono ?_
  rintro e w2 ⟨vb, B, rfl, tb, iB, b2⟩
  obtain ⟨xb, cb, rfl⟩ := tb.form
  have TA2 := hide ((unhide TA).kept b2)
  have TB2 := hide tb.tr
  have IB := hide iB
  have hb2 := below_trans b1 b2
  clear tb iB b1 b2 TA HB1
  obtain ⟨mA, zA, cA⟩ := isTx_sz (unhide IA)
  obtain ⟨mC, zC, cC⟩ := app_sz (unhide IA) (unhide IB)
  have ZA := hide zA
  have ZC := hide zC
  have MC := hide mC
  have CA := hide cA
  have CC := hide cC
  have lA := (unhide IA).1
  have lB := (unhide IB).1
  clear zA zC mC cA cC
  go_wp2_with fail
  refine (headsI _ A w2 (unhide TA2) mA (unhide ZA)).mono ?_
  rintro e w3 ⟨gx, cx, rfl, ox, b3⟩
  rw [unhide CA]
  have TA3 := hide ((unhide TA2).kept b3)
  have TB3 := hide ((unhide TB2).kept b3)
  have OX3 := hide ox
  have hb3 := below_trans hb2 b3
  have z3 := hb3.size
  have gxl := ox.lt
  clear ox TA2 TB2 hb2
  have N0 := Draw.TN.new w3 w3.heap.size (Nat.le_refl _)
  have bN : Below w3.heap.size w3 (w3.alloc (.cells #[] 9)) := (Below.refl _ _).alloc (Nat.le_refl _) _
  have TAN := hide ((unhide TA3).kept bN)
  have HN0 := hide N0
  have HBN := hide bN
  clear N0 bN
  go_wp2_with (first
    | (at_builtin
       refine listAppTx _ rfl _ _ rfl w3.heap.size ca A.length 0 (some ⟨w3.heap.size, 0, none⟩) xa 0 [] A rfl rfl rfl (unhide HN0) rfl (unhide TAN) (by omega) (by simp; omega) (by simp) ?_
       intro g1 c1 w4 t4 hc4 hg4
       have b4 : Below w3.heap.size w3 w4 := (unhide HBN).grown hg4 (by simp) (fun k e => by simp [Value.ownBlock] at e; omega)
       have T4 : Hid (TN w4 w3.heap.size (.slice g1 A.length c1) A) := hide (by simpa using t4)
       rw [Nat.zero_add] at hc4
       have TB4 := hide ((unhide TB3).kept b4)
       have B4 := hide b4
       clear t4 b4 hg4 TAN HN0 HBN)
    | (at_builtin
       refine listAppTx _ rfl _ _ rfl w3.heap.size cb B.length A.length g1 xb c1 A B rfl rfl rfl (unhide T4) rfl (unhide TB4) hc4 (by omega) (unhide B4).size ?_
       intro g2 c2 w5 t5 hc5 hg5
       have b5 : Below w3.heap.size w3 w5 := (unhide B4).grown hg5 (unhide B4).size (fun k e => ((unhide T4).lt k e).1)
       have T5 := hide t5
       have B5 := hide b5
       clear t5 b5 hg5 T4 TB4 B4 hc4)
    | fail)
  have hlen : (A ++ B).length = A.length + B.length := by simp
  have T5 : Hid (TR w5 (.slice g2 (A.length + B.length) c2) (A ++ B)) := hide (unhide T5).tr
  have hb5 := below_trans hb3 (unhide B5)
  have OX5 := hide ((unhide OX3).below (unhide B5))
  have TA5 := hide ((unhide TA3).kept (unhide B5))
  have TB5 := hide ((unhide TB3).kept (unhide B5))
  clear OX3 TA3 TB3 B5 hc5 hb3
  refine (headsI _ (A ++ B) w5 (unhide T5) (unhide MC) (unhide ZC)).mono ?_
  rintro e w6 ⟨gy, cy, rfl, oy, b6⟩
  rw [unhide CC]
  have T6 := hide ((unhide T5).kept b6)
  have TA6 := hide ((unhide TA5).kept b6)
  have TB6 := hide ((unhide TB5).kept b6)
  have OX6 := hide ((unhide OX5).below b6)
  have OY6 := hide oy
  have hb6 := below_trans hb5 b6
  clear T5 TA5 TB5 OX5 oy b6 hb5
  go_wp2_with fail
  refine (headsS _ (A ++ B) w6 (unhide T6) (unhide MC) (unhide ZC)).mono ?_
  rintro e w7 ⟨gw, cw, rfl, ow, b7⟩
  rw [unhide CC]
  have T7 := hide ((unhide T6).kept b7)
  have TA7 := hide ((unhide TA6).kept b7)
  have TB7 := hide ((unhide TB6).kept b7)
  have OX7 := hide ((unhide OX6).below b7)
  have OY7 := hide ((unhide OY6).below b7)
  have OW7 := hide ow
  have hb7 := below_trans hb6 b7
  clear T6 TA6 TB6 OX6 OY6 ow b7 hb6
  go_wp2_with fail
  refine (headI _ A w7 (unhide TA7) mA (unhide ZA)).mono ?_
  rintro e w8 ⟨rfl, b8⟩
  have T8 := hide ((unhide T7).kept b8)
  have TB8 := hide ((unhide TB7).kept b8)
  have OX8 := hide ((unhide OX7).below b8)
  have OY8 := hide ((unhide OY7).below b8)
  have OW8 := hide ((unhide OW7).below b8)
  have hb8 := below_trans hb7 b8
  have eH : headF A = hdK (A ++ B) (A.length + 0) := by
    rw [head_all A (unhide CA), Nat.add_zero, hdK_append A B (Nat.le_refl _)]
  have HE := hide eH
  clear T7 TA7 TB7 OX7 OY7 OW7 b8 hb7 eH
  go_wp2
  go_loopw [11, 12] (fun t11 t12 wr => ∃ i : Nat, i ≤ B.length ∧ t12 = .int .i64 i ∧ t11 = .int .i64 (hdK (A ++ B) (A.length + i)) ∧ wr = w8) (fun _ t12 _ => B.length - (intOf t12).toNat)
  case atStart => exact ⟨0, Nat.zero_le _, rfl, by rw [unhide HE], rfl⟩
  case round =>
    obtain ⟨i, hi, rfl, rfl, rfl⟩ := hrel
    by_cases hlt : i < B.length
    · have hh := hide (hdK_on (l := A) (m := B) hlt)
      rcases unhide TB8 with ⟨h0, _⟩ | ⟨bb, ob, cb', he, _, hc⟩
      · subst h0; simp at hlt
      simp only [Value.slice.injEq, true_and] at he
      obtain ⟨rfl, rfl⟩ := he
      have c0 := hc i hlt
      have hsz : (B.getD i S0).size ≤ 100000000 := by
        have := (unhide IB).2 (B.getD i S0) (by simp [List.getD, hlt])
        omega
      have i1 : (0 : Int) ≤ (i : Int) := by omega
      have i2 : (i : Int) < (B.length : Int) := by omega
      clear hc
      generalize B.getD i S0 = x at *
      generalize hdK (A ++ B) (A.length + i) = h1 at *
      go_wp2_with fail
      refine (mixI h1 x _ hsz).mono ?_
      rintro e w' ⟨rfl, hw⟩
      replace hw := hw.symm
      subst hw
      go_wp2
      exact ⟨⟨i + 1, by omega, by go_num, by rw [← Nat.add_assoc, unhide hh], by first | trivial | rfl⟩, by simp [intOf]; omega⟩
    · obtain rfl : i = B.length := by omega
      have X8 : Hid (∀ k, k ≤ A.length → wr.cell? ⟨gx, k, none⟩ = some (.int .i64 (hdK (A ++ B) k))) := hide (fun k hk => by
        rw [hdK_append A B hk]; exact at_headN (unhide OX8) (by rw [unhide CA]; exact hk))
      have Y8 : Hid (∀ k, k ≤ A.length + B.length → wr.cell? ⟨gy, k, none⟩ = some (.int .i64 (hdK (A ++ B) k))) := hide (fun k hk => at_headN (unhide OY8) (by rw [unhide CC]; exact hk))
      have W8 : Hid (∀ k, k ≤ A.length + B.length → wr.cell? ⟨gw, k, none⟩ = some (.int .i64 (hdK (A ++ B) k))) := hide (fun k hk => at_headN (unhide OW8) (by rw [unhide CC]; exact hk))
      have HL := hide (head_all (A ++ B) (unhide CC))
      clear OX8 OY8 OW8 TB8
      generalize hK : hdK (A ++ B) = K at *
      have HK := hide hK
      clear hK HE hlen
      go_wp2
      go_loopw [13] (fun t13 wx => ∃ i n : Nat, i ≤ A.length + B.length + 1 ∧ t13 = .int .i64 i ∧ wx = wr.drewN n) (fun t13 _ => A.length + B.length + 1 - (intOf t13).toNat)
      case atStart => exact ⟨0, 0, Nat.zero_le _, rfl, rfl⟩
      case round =>
        obtain ⟨i, n, hi2, rfl, rfl⟩ := hrel
        by_cases hl2 : i < A.length + B.length + 1
        · have y0 := unhide Y8 i (by omega)
          have w0 := unhide W8 i (by omega)
          have i1 : (0 : Int) ≤ (i : Int) := by omega
          have i2 : (i : Int) < (A.length : Int) + (B.length : Int) + 1 := by omega
          by_cases hx : i ≤ A.length
          · have x0 := unhide X8 i hx
            have i3 : (i : Int) < (A.length : Int) + 1 := by omega
            have hd : decide ((i : Int) < (A.length : Int) + 1) = true := decide_eq_true i3
            generalize K i = z at *
            go_wp2
            go_quiet (fail)
            go_wp2
            exact ⟨⟨i + 1, _, by omega, by go_num, by first | rfl | simp only [World.drewN_drewN]⟩, by simp [intOf]; omega⟩
          · have i3 : (A.length : Int) + 1 ≤ (i : Int) := by omega
            have hd : decide ((i : Int) < (A.length : Int) + 1) = false := decide_eq_false (by omega)
            generalize K i = z at *
            go_wp2
            go_quiet (fail)
            go_wp2
            exact ⟨⟨i + 1, _, by omega, by go_num, by first | rfl | simp only [World.drewN_drewN]⟩, by simp [intOf]; omega⟩
        · obtain rfl : i = A.length + B.length + 1 := by omega
          have yl := unhide Y8 (A.length + B.length) (Nat.le_refl _)
          have TD := hide ((unhide T8).kept (show Below wr.heap.size wr (wr.drewN n) from ⟨rfl, rfl, rfl, Nat.le_refl _, fun _ _ => rfl⟩))
          have hbD := drewN_b hb8 n
          have ylD : (wr.drewN n).cell? ⟨gy, A.length + B.length, none⟩ = some (.int .i64 (K (A.length + B.length))) := yl
          generalize wr.drewN n = wd at *
          go_wp2_with fail
          refine (headI _ (A ++ B) wd (unhide TD) (unhide MC) (unhide ZC)).mono ?_
          rintro e w9 ⟨rfl, b9⟩
          rw [unhide HL]
          have gyl : gy < wd.heap.size := by
            refine Nat.lt_of_not_le fun hn => ?_
            have h2 : wd.heap[gy]? = none := by simp; omega
            simp [World.cell?, h2] at ylD
          have yl9 := (b9.cell (p := ⟨gy, A.length + B.length, none⟩) gyl).trans ylD
          have hb9 := below_trans hbD b9
          generalize K (A.length + B.length) = z at *
          have i1 : (0 : Int) ≤ (A.length : Int) + (B.length : Int) := by omega
          have i2 : (A.length : Int) + (B.length : Int) < (A.length : Int) + (B.length : Int) + 1 := by omega
          have a1 : (A.length + B.length : Nat) < A.length + B.length + 1 := by omega
          clear yl ylD
          go_wp2
          go_ret
          exact ⟨rfl, hb9⟩
end Go.Proofs.Ytgaflnkefjmblaa.Chain
