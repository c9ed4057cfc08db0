/-
  FnChainOne.
-/
import Derived.Test.YtgaflnkefjmblaaMixM
import Derived.Test.YtgaflnkefjmblaaDrawMix
import Derived.Lib.ConvBytes
import Derived.Deep.RegionHeld3
import Derived.Deep.QuietTactic
import Derived.BigQuiet
import Derived.Lib.AtoiErrMem
namespace Go.Proofs.Ytgaflnkefjmblaa.Chain
set_option linter.unusedVariables false
open Go.RowKit
open Draw (Bytes drawMix isHead)

/-- the bytes of a text, in memory -/
theorem bytes_new (w : World) (s : ByteArray) : ∃ (W : World) (c : Nat), (convert 9 22 (.string s)).run Try.prog w = .ok (.slice (some ⟨w.heap.size, 0, none⟩) s.size c) W ∧ Below w.heap.size w W ∧
    (∀ j, j < s.size → W.cell? ⟨w.heap.size, j, none⟩ = some (.int .u8 ((s.data.toList.getD j 0).toNat : Int))) ∧ ∀ j, j < s.size → W.frozen? ⟨w.heap.size, j, none⟩ = false := by
  refine ⟨_, _, Lib.run_convert_string_bytes (P := Try.prog) w 9 22 5 s Try.underlying9 Try.underlying22 Try.underlying5, Lib.bytesWorld_below _ _ _, fun j hj => Lib.bytesWorld_cell _ _ _ j hj, fun j hj => ?_⟩
  simp only [World.frozen?]
  rw [Lib.bytesWorld_at_new]
  have : j < (Lib.bytesCells w 5 s).size := by
    have : s.data.size = s.size := rfl
    simp [Lib.bytesCells]; omega
  simp; omega
theorem set_split {l : List UInt8} {j : Nat} {b : UInt8} (h : l[j]? = some b) (c : UInt8) : ∃ x y, l = x ++ b :: y ∧ l.set j c = x ++ c :: y := by
  obtain ⟨hj, rfl⟩ := List.getElem?_eq_some_iff.1 h
  refine ⟨l.take j, l.drop (j + 1), ?_, ?_⟩
  · rw [← List.drop_eq_getElem_cons hj, List.take_append_drop]
  · rw [List.set_eq_take_append_cons_drop, if_pos hj]
/-- another key has another mark -/
theorem key_other {k m : Int} {l : List UInt8} (h0 : 0 ≤ k) (h1 : k < 65520) (h : mixL k l = m) : mixL (k + 1) l ≠ m := by
  intro e
  have := mixL_inj (l := l) (h := k + 1) (h' := k) (by omega) (by omega) (e.trans h.symm)
  omega
theorem mixL_one (k : Int) (a l : List UInt8) {b c : UInt8} (hb : b ≠ c) : mixL k (a ++ b :: l) ≠ mixL k (a ++ c :: l) := by
  unfold mixL
  rw [show (a ++ c :: l).length = (a ++ b :: l).length by simp]
  exact mixF_one a l _ hb
theorem mixIB (k : Int) (s : ByteArray) (w : World) (hs : s.size ≤ 100000000) : Calls Try.prog 18 #[.int .i64 k, .string s] w fun e w' => e = .returned (.int .i64 (mixL k s.data.toList)) ∧ Below w.heap.size w w' := (mixI k s w hs).mono fun e w' h => ⟨h.1, h.2 ▸ Below.refl _ _⟩
theorem mixSB (k : Int) (s : ByteArray) (w : World) (hs : s.size ≤ 100000000) : Calls Try.prog 20 #[.int .i64 k, .string s] w fun e w' => e = .returned (.int .i64 (mixL k s.data.toList)) ∧ Below w.heap.size w w' := (mixS k s w hs).mono fun e w' h => ⟨h.1, h.2 ▸ Below.refl _ _⟩
theorem byte_other {k m : Int} {l : List UInt8} {j : Nat} {b c : UInt8} (h : mixL k l = m) (hb : l[j]? = some b) (hc : b ≠ c) : mixL k (l.set j c) ≠ m := by
  obtain ⟨x, y, e1, e2⟩ := set_split hb c
  rw [e2, ← h, e1]
  exact fun e => mixL_one k x y hc e.symm

theorem retB {b : Bool} (h : b = true) : Ending.returned (.bool b) = .returned (.bool true) := by rw [h]

set_option maxHeartbeats 4000000 in
theorem lawOne (a : Option Addr) (len cap : Nat) (a' : Option Addr) (len' cap' : Nat) (w : World) (h : Bytes w a len cap) (h' : Bytes w a' len' cap') :
    Calls Try.prog 4 #[.slice a len cap, .slice a' len' cap'] w fun e w' => e = .returned (.bool true) ∧ Below w.heap.size w w' := by
  obtain ⟨l1, l2, l3⟩ := h
  obtain ⟨l1', l2', l3'⟩ := h'
  by_cases hbig : 1048576 < len
  · clear l3 l3'
    go_enter Try.func4, Try.ntmps4
    go_wp2
    go_ret
    exact ⟨rfl, Below.refl _ _⟩
  by_cases hbig' : 1048576 < len'
  · clear l3 l3'
    go_enter Try.func4, Try.ntmps4
    go_wp2
    go_ret
    exact ⟨rfl, Below.refl _ _⟩
  have HB := hide (show Bytes w a len cap from ⟨l1, l2, l3⟩)
  have L3 := hide l3'
  clear l3 l3'
  go_enter Try.func4, Try.ntmps4
  go_wp2_with fail
  refine (drawMix a len cap w (unhide HB)).mono ?_
  rintro e w1 ⟨k, s, rfl, hk, hs, hb1⟩
  go_wp2_with fail
  refine (mixIB k s _ (by omega)).mono ?_
  rintro e w2 ⟨rfl, hb2⟩
  have hm := mixL_bd k s.data.toList
  generalize hM : mixL k s.data.toList = m at hm
  have HM := hide hM
  go_wp2_with fail
  refine (mixSB k s _ (by omega)).mono ?_
  rintro e w3 ⟨rfl, hb3⟩
  rw [hM]
  clear hM
  have hm0 := hm.1
  have hm1 := hm.2
  have hm2 : m < 65521 := by omega
  have hb := below_trans hb1 (below_trans hb2 hb3)
  clear hb1 hb2 hb3
  by_cases kk : 0 ≤ k ∧ k < 65520
  · obtain ⟨k0, k1⟩ := kk
    go_wp2_with fail
    refine (mixIB (k + 1) s _ (by omega)).mono ?_
    rintro e w4 ⟨rfl, hb4⟩
    have hne := key_other k0 k1 (unhide HM)
    generalize mixL (k + 1) s.data.toList = m' at hne
    have hB := below_trans hb hb4
    clear hb hb4
    by_cases hs0 : s.size = 0
    · go_wp2
      go_ret
      exact ⟨rfl, hB⟩
    by_cases hl0 : len' = 0
    · go_wp2
      go_ret
      exact ⟨rfl, hB⟩
    have hs0' : (s.size : Int) ≠ 0 := by omega
    have hl0' : (len' : Int) ≠ 0 := by omega
    rcases unhide L3 with h | ⟨blk, off, rfl, hblk, hc⟩
    · omega
    obtain ⟨c, c0, c1, hcell⟩ := hc 0 (by omega)
    obtain ⟨W5, cp, hcv, hb5, hcs, hfr⟩ := bytes_new w4 s
    clear hc
    have hjlt : len' % s.size < s.size := Nat.mod_lt _ (by omega)
    have hcell5 : W5.cell? ⟨blk, off, none⟩ = some (.int .u8 c) := (below_trans hB hb5).cell (p := ⟨blk, off, none⟩) hblk ▸ hcell
    have hcj := hcs _ hjlt
    have hfj := hfr _ hjlt
    have HCS := hide hcs
    have hbj : s.data.toList[len' % s.size]? = some (s.data.toList.getD (len' % s.size) 0) := by
      rw [by_at hjlt, List.getD_eq_getElem?_getD, by_at hjlt]; rfl
    have hji : ((len' : Int) % (s.size : Int)) = ((len' % s.size : Nat) : Int) := by omega
    generalize hj : len' % s.size = j at *
    generalize hbb : s.data.toList.getD j 0 = b at *
    have hb256 := b.toNat_lt
    clear hcs hfr hj hbb
    have hl1 : (0 : Int) < (len' : Int) := by omega
    have hl2 : 0 < len' := by omega
    have hl3 : (0 : Int).toNat < len' := by simpa using hl2
    have hl4 : (1 : Int) ≤ (len' : Int) := by omega
    have hj1 : (j : Int) < (s.size : Int) := by omega
    have hne2 : blk ≠ w4.heap.size := by have := hB.size; omega
    go_wp2_with fail
    · exfalso
      rcases (by assumption : ((s.size : Int) == 0) = true ∨ ((len' : Int) == 0) = true) with hx | hx
      · exact hs0' (by simpa using hx)
      · exact hl0' (by simpa using hx)
    go_region
    obtain ⟨W6, h6⟩ : ∃ W6, W6 = (W5.setCell ⟨w4.heap.size, j, none⟩ (.int .u8 (((b.toNat : Int) + 1 + c % 255) % 256))).drew := ⟨_, rfl⟩
    have hB6 : Below w.heap.size w W6 := by
      rw [h6]
      have := (below_trans hB hb5).setCell (p := ⟨w4.heap.size, j, none⟩) hB.size (.int .u8 (((b.toNat : Int) + 1 + c % 255) % 256))
      exact ⟨this.os, this.tape, this.output, this.size, this.block⟩
    obtain ⟨b', hb'⟩ : ∃ b' : UInt8, (b'.toNat : Int) = ((b.toNat : Int) + 1 + c % 255) % 256 := ⟨UInt8.ofNat (((b.toNat : Int) + 1 + c % 255) % 256).toNat, by simp; omega⟩
    have hbb : b ≠ b' := by
      rintro rfl
      omega
    have hl : (s.data.toList.set j b').length = s.size := by simp
    have hcv2 := run_convert_bytes_back (P := Try.prog) W6 22 9 5 ⟨w4.heap.size, 0, none⟩ cp (s.data.toList.set j b') Try.underlying22 Try.underlying5 Try.underlying9 (fun i hi => by
      rw [Addr.add_lit, Nat.zero_add, h6]
      show (W5.setCell _ _).cell? _ = _
      rw [List.getElem_set]
      by_cases e : j = i
      · subst e
        rw [if_pos rfl, World.cell?_setCell_same _ _ _ hcj, hb']
      · rw [if_neg e, World.cell?_setCell_other _ _ _ _ (by simp <;> omega), unhide HCS i (by omega)]
        have hi' : i < s.data.toList.length := by rw [List.length_set] at hi; exact hi
        rw [List.getD_eq_getElem?_getD, List.getElem?_eq_getElem hi']; rfl)
    rw [hl] at hcv2
    have hne3 := byte_other (unhide HM) hbj hbb
    rw [← h6]
    clear h6 HCS hcj hfj hb5 hcv hcell5 hcell hb' hbj hbb hji
    go_wp2_with fail
    refine (mixIB k ⟨(s.data.toList.set j b').toArray⟩ _ (by show (s.data.toList.set j b').toArray.size ≤ _; simp; omega)).mono ?_
    rintro e w7 ⟨rfl, hb7⟩
    simp only [] at *
    generalize mixL k (s.data.toList.set j b') = m3 at hne3
    go_wp2
    go_ret
    exact ⟨retB (by simpa using hne3), below_trans hB6 hb7⟩
  · have kk' : k < 0 ∨ (0 ≤ k ∧ 65520 ≤ k) := by omega
    clear kk
    rcases kk' with k0 | ⟨k0, k1⟩
    all_goals
      by_cases hs0 : s.size = 0
      · go_wp2
        go_ret
        exact ⟨rfl, hb⟩
      by_cases hl0 : len' = 0
      · go_wp2
        go_ret
        exact ⟨rfl, hb⟩
      have hs0' : (s.size : Int) ≠ 0 := by omega
      have hl0' : (len' : Int) ≠ 0 := by omega
      rcases unhide L3 with h | ⟨blk, off, rfl, hblk, hc⟩
      · omega
      obtain ⟨c, c0, c1, hcell⟩ := hc 0 (by omega)
      obtain ⟨W5, cp, hcv, hb5, hcs, hfr⟩ := bytes_new w3 s
      clear hc
      have hjlt : len' % s.size < s.size := Nat.mod_lt _ (by omega)
      have hcell5 : W5.cell? ⟨blk, off, none⟩ = some (.int .u8 c) := (below_trans hb hb5).cell (p := ⟨blk, off, none⟩) hblk ▸ hcell
      have hcj := hcs _ hjlt
      have hfj := hfr _ hjlt
      have HCS := hide hcs
      have hbj : s.data.toList[len' % s.size]? = some (s.data.toList.getD (len' % s.size) 0) := by
        rw [by_at hjlt, List.getD_eq_getElem?_getD, by_at hjlt]; rfl
      have hji : ((len' : Int) % (s.size : Int)) = ((len' % s.size : Nat) : Int) := by omega
      generalize hj : len' % s.size = j at *
      generalize hbb : s.data.toList.getD j 0 = b at *
      have hb256 := b.toNat_lt
      clear hcs hfr hj hbb
      have hl1 : (0 : Int) < (len' : Int) := by omega
      have hl2 : 0 < len' := by omega
      have hl3 : (0 : Int).toNat < len' := by simpa using hl2
      have hl4 : (1 : Int) ≤ (len' : Int) := by omega
      have hj1 : (j : Int) < (s.size : Int) := by omega
      have hne2 : blk ≠ w3.heap.size := by have := hb.size; omega
      go_wp2_with fail
      · exfalso
        rcases (by assumption : ((s.size : Int) == 0) = true ∨ ((len' : Int) == 0) = true) with hx | hx
        · exact hs0' (by simpa using hx)
        · exact hl0' (by simpa using hx)
      go_region
      obtain ⟨W6, h6⟩ : ∃ W6, W6 = (W5.setCell ⟨w3.heap.size, j, none⟩ (.int .u8 (((b.toNat : Int) + 1 + c % 255) % 256))).drew := ⟨_, rfl⟩
      have hB6 : Below w.heap.size w W6 := by
        rw [h6]
        have := (below_trans hb hb5).setCell (p := ⟨w3.heap.size, j, none⟩) hb.size (.int .u8 (((b.toNat : Int) + 1 + c % 255) % 256))
        exact ⟨this.os, this.tape, this.output, this.size, this.block⟩
      obtain ⟨b', hb'⟩ : ∃ b' : UInt8, (b'.toNat : Int) = ((b.toNat : Int) + 1 + c % 255) % 256 := ⟨UInt8.ofNat (((b.toNat : Int) + 1 + c % 255) % 256).toNat, by simp; omega⟩
      have hbb : b ≠ b' := by
        rintro rfl
        omega
      have hl : (s.data.toList.set j b').length = s.size := by simp
      have hcv2 := run_convert_bytes_back (P := Try.prog) W6 22 9 5 ⟨w3.heap.size, 0, none⟩ cp (s.data.toList.set j b') Try.underlying22 Try.underlying5 Try.underlying9 (fun i hi => by
        rw [Addr.add_lit, Nat.zero_add, h6]
        show (W5.setCell _ _).cell? _ = _
        rw [List.getElem_set]
        by_cases e : j = i
        · subst e
          rw [if_pos rfl, World.cell?_setCell_same _ _ _ hcj, hb']
        · rw [if_neg e, World.cell?_setCell_other _ _ _ _ (by simp <;> omega), unhide HCS i (by omega)]
          have hi' : i < s.data.toList.length := by rw [List.length_set] at hi; exact hi
          rw [List.getD_eq_getElem?_getD, List.getElem?_eq_getElem hi']; rfl)
      rw [hl] at hcv2
      have hne3 := byte_other (unhide HM) hbj hbb
      rw [← h6]
      clear h6 HCS hcj hfj hb5 hcv hcell5 hcell hb' hbj hbb hji
      go_wp2_with fail
      refine (mixIB k ⟨(s.data.toList.set j b').toArray⟩ _ (by show (s.data.toList.set j b').toArray.size ≤ _; simp; omega)).mono ?_
      rintro e w7 ⟨rfl, hb7⟩
      simp only [] at *
      generalize mixL k (s.data.toList.set j b') = m3 at hne3
      go_wp2
      go_ret
      exact ⟨retB (by simpa using hne3), below_trans hB6 hb7⟩
end Go.Proofs.Ytgaflnkefjmblaa.Chain
