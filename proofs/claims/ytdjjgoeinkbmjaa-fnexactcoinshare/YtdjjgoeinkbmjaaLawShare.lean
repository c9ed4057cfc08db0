/-
  The law: CoinShare answers as the document's, at every argument.
-/
import Derived.Test.YtdjjgoeinkbmjaaLawShare0
namespace Go.Proofs.Ytdjjgoeinkbmjaa.Share
set_option linter.unusedVariables false
open Go.RowKit Ints

theorem IR.lt {W : World} {v : Value} {l : List Int} (h : IR W v l) {g : Nat} (hg : v.ownBlock = some g) : g < W.heap.size := by
  rcases h with ⟨rfl, _⟩ | ⟨b, o, cap, rfl, _, hc⟩
  · simp [Value.ownBlock] at hg
  · have : b = g := by simpa [Value.ownBlock] using hg
    subst this; exact hc.1

theorem rd_of {w : World} {a : Option Addr} {len cap : Nat} {zs : List Int} (h : (a = none ∧ len = 0 ∧ cap = 0 ∧ zs = []) ∨
    ∃ x, a = some x ∧ len ≤ cap ∧ cap ≤ maxLen ∧ zs.length = cap ∧ (∀ i, i < zs.length → w.cell? (x.add i) = some (.int .i64 (zs.getD i 0))) ∧ ∀ n ∈ zs, (Lit.int .i64 n).wf = true) (hl : len ≤ 1048576) : Rd w a len (zs.take len) := by
  rcases h with ⟨rfl, rfl, rfl, rfl⟩ | ⟨x, rfl, h1, _, h2, h3, _⟩
  · exact ⟨rfl, hl, .inl rfl⟩
  · refine ⟨by simp; omega, hl, ?_⟩
    by_cases h0 : len = 0
    · exact .inl h0
    · right
      have hc := h3 0 (by omega)
      obtain ⟨b, o, sp⟩ := x
      have e0 : Addr.add ⟨b, o, sp⟩ 0 = ⟨b, o, sp⟩ := by simp [Addr.add]
      rw [e0] at hc
      have hsp : sp = none := by
        cases sp with
        | none => rfl
        | some s =>
          simp only [World.cell?] at hc
          split at hc
          · simp at hc
          · cases hc
      subst hsp
      refine ⟨b, o, rfl, World.block_lt_of_cell? w _ hc, fun i hi => ?_⟩
      have := h3 i (by omega)
      rw [Addr.add_lit] at this
      rw [this]
      congr 2
      rw [List.getD_eq_getElem?_getD, List.getD_eq_getElem?_getD, List.getElem?_take, if_pos hi]

theorem IR.keptB {W W' : World} {v : Value} {l : List Int} (h : IR W v l) (hb : Below W.heap.size W W') : IR W' v l :=
  h.kept (below_grown hb none) (by cases v.ownBlock <;> simp)

theorem IR.keptD {W : World} {v : Value} {l : List Int} (h : IR W v l) (k : Nat) : IR (W.drewN k) v l := h

theorem below_d {B : Nat} {w W : World} (h : Below B w W) (k : Nat) : Below B w (W.drewN k) := ⟨h.os, h.tape, h.output, h.size, h.block⟩

set_option maxHeartbeats 3200000 in
theorem law (T : Int) (a : Option Addr) (len cap : Nat) (zs : List Int) (w : World) (h : (a = none ∧ len = 0 ∧ cap = 0 ∧ zs = []) ∨
    ∃ x, a = some x ∧ len ≤ cap ∧ cap ≤ maxLen ∧ zs.length = cap ∧ (∀ i, i < zs.length → w.cell? (x.add i) = some (.int .i64 (zs.getD i 0))) ∧ ∀ n ∈ zs, (Lit.int .i64 n).wf = true) :
    Calls Try.prog 3 #[.int .i64 T, .slice a len cap] w fun e w' => e = .returned (.bool true) ∧ Below w.heap.size w w' := by
  have hm : len ≤ 9223372036854775807 := by
    rcases h with ⟨_, rfl, _⟩ | ⟨x, _, h1, h2, _⟩
    · omega
    · unfold maxLen at h2; omega
  by_cases hl : 1048576 < len
  · clear h
    go_enter Try.func3, Try.ntmps3
    go_wp2
    go_ret
    exact ⟨rfl, Below.refl _ _⟩
  · have hrd := hide (rd_of h (by omega))
    clear h
    generalize zs.take len = ws at *
    have hlen : ws.length = len := (unhide hrd).1
    have OL : Hid ((outS T ws).length ≤ 1048576) := by
      show _ ≤ _
      unfold outS
      split
      · rw [share_len]; omega
      · simp
    generalize hO : outS T ws = O at *
    generalize hK : okS T ws = B at *
    have HO := hide hO; have HK := hide hK
    clear hO hK
    go_enter Try.func3, Try.ntmps3
    go_wp2_with (fail)
    refine (toInt a len cap ws _ (unhide hrd)).mono ?_
    rintro e W1 ⟨v1, rfl, i1, o1, b1⟩
    have I1 := hide i1; have B1 := hide b1
    clear i1 o1 b1
    go_wp2_with (fail)
    have cS := ansS v1 ws T W1 (unhide I1)
    rw [unhide HO, unhide HK] at cS
    refine cS.mono ?_
    rintro e W2 ⟨u0, rfl, iu, nu, b2⟩
    have B2 := hide ((unhide B1).trans (b2.mono (unhide B1).size))
    have NU : Hid (∀ g, u0.ownBlock = some g → w.heap.size ≤ g ∧ g < W2.heap.size) := fun g hg => by
      refine ⟨?_, IR.lt iu hg⟩
      rcases nu with nu | ⟨g', nu, hge⟩
      · rw [nu] at hg; cases hg
      · rw [nu] at hg; cases hg; exact Nat.le_trans (unhide B1).size hge
    have IU2 := hide iu
    clear cS iu nu b2 I1 B1
    go_wp2_with (fail)
    refine (toInt a len cap ws _ ((unhide hrd).kept (unhide B2))).mono ?_
    rintro e W3 ⟨vx, rfl, ix, ox, b3⟩
    have IU3 := hide (IR.keptB (unhide IU2) b3)
    have IX3 := hide ix
    have OX := hide ox
    have LX := hide (IR.lt ix ox)
    have B3 := hide ((unhide B2).trans (b3.mono (unhide B2).size))
    clear ix ox b3 IU2
    go_wp2_with (fail)
    have cI := ansI vx ws T W3 (unhide IX3)
    rw [unhide HO, unhide HK] at cI
    refine cI.mono ?_
    rintro e W4 ⟨ug, rfl, ig, ng, b4⟩
    have IU4 := hide (IR.keptB (unhide IU3) b4)
    have IX4 := hide (IR.keptB (unhide IX3) b4)
    have IG4 := hide ig
    have NG : Hid (∀ g, ug.ownBlock = some g → W2.heap.size < g) := fun g hg => by
      rcases ng with ng | ⟨g', ng, hge⟩
      · rw [ng] at hg; cases hg
      · rw [ng] at hg; cases hg; exact Nat.lt_of_lt_of_le (unhide LX) hge
    have B4 := hide ((unhide B3).trans (b4.mono (unhide B3).size))
    clear cI ig ng b4 IU3 IX3 B3
    go_wp2_with (fail)
    refine (eqIntS ug u0 O O W4 (unhide IG4) (unhide IU4)).mono ?_
    rintro e _ ⟨rfl, k5, rfl⟩
    rw [beq_self_eq_true]
    go_wp2_with (fail)
    refine (toInt a len cap ws _ ((unhide hrd).kept (below_d (unhide B4) k5))).mono ?_
    rintro e W6 ⟨vy, rfl, iy, oy, b6⟩
    have IU6 := hide (IR.keptB (IR.keptD (unhide IU4) k5) b6)
    have IX6 := hide (IR.keptB (IR.keptD (unhide IX4) k5) b6)
    have IG6 := hide (IR.keptB (IR.keptD (unhide IG4) k5) b6)
    have B6 := hide ((below_d (unhide B4) k5).trans (b6.mono (unhide B4).size))
    have IY := hide iy
    clear iy oy b6 IU4 IX4 IG4 B4
    go_wp2_with (fail)
    refine (eqIntS vx vy ws ws W6 (unhide IX6) (unhide IY)).mono ?_
    rintro e _ ⟨rfl, k7, rfl⟩
    rw [beq_self_eq_true]
    go_wp2_with (fail)
    refine (markIntS vx ws 1 (W6.drewN k7) (IR.keptD (unhide IX6) k7) (by omega) (by omega)).mono ?_
    rintro e W8 ⟨rfl, _, b8⟩
    have IU8 := hide (IR.kept (IR.keptD (unhide IU6) k7) b8 (by
      rw [unhide OX]
      cases hu : u0.ownBlock with
      | none => exact .inl rfl
      | some g => have := unhide NU g hu; exact .inr (by simp; omega)))
    have IG8 := hide (IR.kept (IR.keptD (unhide IG6) k7) b8 (by
      rw [unhide OX]
      cases hu : ug.ownBlock with
      | none => exact .inl rfl
      | some g => have := unhide NG g hu; exact .inr (by simp; omega)))
    have B8 := hide (below_gr (below_d (unhide B6) k7) b8 (unhide B6).size (fun g hg => by
      rw [unhide OX] at hg; cases hg; exact (unhide B2).size))
    clear b8 IU6 IX6 IG6 B6 IY
    go_wp2_with (fail)
    refine (eqIntS ug u0 O O W8 (unhide IG8) (unhide IU8)).mono ?_
    rintro e _ ⟨rfl, k9, rfl⟩
    rw [beq_self_eq_true]
    go_wp2_with (fail)
    refine (markIntS ug O 1 (W8.drewN k9) (IR.keptD (unhide IG8) k9) (by omega) (by omega)).mono ?_
    rintro e W10 ⟨rfl, im, b10⟩
    have IM10 := hide im
    have IU10 := hide (IR.kept (IR.keptD (unhide IU8) k9) b10 (by
      cases hu : u0.ownBlock with
      | none => exact .inl rfl
      | some g =>
        have h1 := unhide NU g hu
        right
        cases hg : ug.ownBlock with
        | none => simp
        | some g' => have := unhide NG g' hg; simp; omega))
    have B10 := hide (below_gr (below_d (unhide B8) k9) b10 (unhide B8).size (fun g hg => by
      have h1 := unhide NG g hg
      have h2 := (unhide B2).size
      omega))
    have hol := unhide OL
    clear im b10 IU8 IG8 B8
    go_wp2_with (fail)
    refine (heldIntS ug O.length 1 W10 (unhide IM10) (by omega) (by omega)).mono ?_
    rintro e _ ⟨rfl, rfl⟩
    go_wp2_with (fail)
    refine (toInt a len cap ws _ ((unhide hrd).kept (unhide B10))).mono ?_
    rintro e W12 ⟨vz, rfl, iz, oz, b12⟩
    have IZ := hide iz
    have IM12 := hide (IR.keptB (unhide IM10) b12)
    have IU12 := hide (IR.keptB (unhide IU10) b12)
    have B12 := hide ((unhide B10).trans (b12.mono (unhide B10).size))
    clear iz oz b12 IM10 IU10 B10
    go_wp2_with (fail)
    have cH := ansI vz ws T W12 (unhide IZ)
    rw [unhide HO, unhide HK] at cH
    refine cH.mono ?_
    rintro e W13 ⟨uh, rfl, ih, nh, b13⟩
    have IH := hide ih
    have IM13 := hide (IR.keptB (unhide IM12) b13)
    have IU13 := hide (IR.keptB (unhide IU12) b13)
    have B13 := hide ((unhide B12).trans (b13.mono (unhide B12).size))
    clear cH ih nh b13 IM12 IU12 B12 IZ
    go_wp2_with (fail)
    refine (eqIntS uh u0 O O W13 (unhide IH) (unhide IU13)).mono ?_
    rintro e _ ⟨rfl, k14, rfl⟩
    rw [beq_self_eq_true]
    go_wp2_with (fail)
    refine (heldIntS ug O.length 1 (W13.drewN k14) (IR.keptD (unhide IM13) k14) (by omega) (by omega)).mono ?_
    rintro e _ ⟨rfl, rfl⟩
    go_wp2_with (fail)
    go_ret
    exact ⟨rfl, below_d (unhide B13) k14⟩
end Go.Proofs.Ytdjjgoeinkbmjaa.Share
