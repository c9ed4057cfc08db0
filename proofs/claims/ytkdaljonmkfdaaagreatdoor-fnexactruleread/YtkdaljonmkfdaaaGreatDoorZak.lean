/-
  Texts of this proof laid together, in build order; each says of itself what it holds.
-/
import Derived.Test.YtkdaljonmkfdaaaGreatDoorZaj
section
/-
  spec's reader of expressions: steps.
-/
namespace Go.Proofs.YtkdaljonmkfdaaaGreatDoor.Rule
set_option linter.unusedVariables false
open Go.RowKit
open Boxes (At hide unhide)
open RegIn
open Draw (OwnT fT gT infoEx grown_trans)
open App2 (Own2 listApp2)
open Tiers (T T0)

def lenV : Value → Nat | .slice _ n _ => n | _ => 0

/-- steps so far -/
structure TI (s : ByteArray) (t0 : List UInt8) (l : List T) (A : Nat) (bad : Bool) : Prop where
  go : bad = false → A ≤ s.size ∧ tiersS 7 t0 = (tiersS (7 - l.length) (left s A)).map fun q => (l ++ q.1, q.2)
  no : bad = true → tiersS 7 t0 = none
  len : l.length ≤ 7
  far : A ≤ s.size + 2

theorem Far.ok {s : ByteArray} {a a' : Nat} {bad : Bool} {o : Option (List UInt8)} (h : Far s a bad o a' false) : bad = false ∧ a' ≤ s.size ∧ o = some (left s a') := by
  refine ⟨?_, h.2.1 rfl⟩
  cases bad with
  | false => rfl
  | true => exact absurd (h.1 rfl) (by simp)
theorem Far.fail {s : ByteArray} {a a' : Nat} {o : Option (List UInt8)} (h : Far s a false o a' true) : o = none := by
  rcases h.2.2.1 rfl with h | h
  · cases h
  · exact h
theorem num_fst {t r r' : List UInt8} {n : Int} (h : ∃ r, numS t = some (n, r)) (h' : (numS t).map (·.2) = some r') : numS t = some (n, r') := by
  obtain ⟨q, hq⟩ := h
  rw [hq] at h' ⊢
  simp only [Option.map_some, Option.some.injEq] at h'
  rw [h']
theorem tier_chain {s : ByteArray} {A A2 A4 : Nat} {n1 n2 : Int} {b1 b2 b3 b4 : Bool} (F1 : Far s A false (wantS 32 (left s A)) (A + 1) b1) (F2 : Far s (A + 1) b1 ((numS (left s (A + 1))).map (·.2)) A2 b2) (N2 : b2 = false → ∃ r, numS (left s (A + 1)) = some (n1, r))
    (F3 : Far s A2 b2 (wantS 58 (left s A2)) (A2 + 1) b3) (F4 : Far s (A2 + 1) b3 ((numS (left s (A2 + 1))).map (·.2)) A4 b4) (N4 : b4 = false → ∃ r, numS (left s (A2 + 1)) = some (n2, r)) :
    (b4 = false → A4 ≤ s.size ∧ tierS (left s A) = some ((n1, n2), left s A4)) ∧ (b4 = true → tierS (left s A) = none) := by
  unfold tierS
  refine ⟨fun h => ?_, fun h => ?_⟩
  · subst h
    obtain ⟨rfl, h4, e4⟩ := F4.ok
    obtain ⟨rfl, h3, e3⟩ := F3.ok
    obtain ⟨rfl, h2, e2⟩ := F2.ok
    obtain ⟨_, h1, e1⟩ := F1.ok
    rw [e1, Option.bind_some, num_fst (r := []) (N2 rfl) e2, Option.bind_some]
    simp only
    rw [e3, Option.bind_some, num_fst (r := []) (N4 rfl) e4]
    exact ⟨h4, rfl⟩
  · subst h
    cases b1 with
    | true => rw [F1.fail]; rfl
    | false =>
      rw [(F1.ok).2.2, Option.bind_some]
      cases b2 with
      | true =>
        have := F2.fail
        rw [Option.map_eq_none_iff] at this
        rw [this]; rfl
      | false =>
        rw [num_fst (r := []) (N2 rfl) (F2.ok).2.2, Option.bind_some]
        simp only
        cases b3 with
        | true => rw [F3.fail]; rfl
        | false =>
          rw [(F3.ok).2.2, Option.bind_some]
          have := F4.fail
          rw [Option.map_eq_none_iff] at this
          rw [this]; rfl
theorem TI.next {s : ByteArray} {t0 : List UInt8} {l : List T} {A A4 : Nat} {n1 n2 : Int} {b4 : Bool} (h : TI s t0 l A false) (hl : l.length ≤ 6) (hh : (left s A).head? = some 32) (hA : A4 ≤ s.size + 2)
    (h1 : b4 = false → A4 ≤ s.size ∧ tierS (left s A) = some ((n1, n2), left s A4)) (h2 : b4 = true → tierS (left s A) = none) : TI s t0 (l ++ [(n1, n2)]) A4 b4 := by
  have e : 7 - l.length = (7 - (l ++ [(n1, n2)]).length) + 1 := by simp; omega
  have e0 := (h.go rfl).2
  have e1 : tiersS (7 - l.length) (left s A) = (tierS (left s A)).bind fun p => (tiersS (7 - (l ++ [(n1, n2)]).length) p.2).map fun q => (p.1 :: q.1, q.2) := by rw [e, tiersS, if_pos hh]
  rw [e1] at e0
  refine ⟨fun hb => ⟨(h1 hb).1, ?_⟩, fun hb => ?_, by simp; omega, hA⟩
  · rw [e0, (h1 hb).2, Option.bind_some]
    simp only
    cases tiersS (7 - (l ++ [(n1, n2)]).length) (left s A4) with
    | none => rfl
    | some q => simp
  · rw [e0, h2 hb]; rfl
theorem TI.stop {s : ByteArray} {t0 : List UInt8} {l : List T} {A : Nat} (h : TI s t0 l A false) (hh : (left s A).head? ≠ some 32 ∨ l.length = 7) : A ≤ s.size ∧ tiersS 7 t0 = some (l, left s A) := by
  refine ⟨(h.go rfl).1, ?_⟩
  rw [(h.go rfl).2]
  have : tiersS (7 - l.length) (left s A) = some ([], left s A) := by
    rcases hh with hh | hh
    · cases 7 - l.length with
      | zero => rfl
      | succ n => rw [tiersS, if_neg hh]
    · rw [hh]; rfl
  rw [this]; simp
theorem head_see {s : ByteArray} {A : Nat} {c : UInt8} (hc : c ≠ 0) : (left s A).head? = some c ↔ seeB s A = c := by
  unfold seeB
  cases (left s A).head? with
  | none => simp; exact fun h => hc h.symm
  | some x => simp

set_option maxRecDepth 20000 in
set_option maxHeartbeats 3200000 in
theorem tiersR (b : Nat) (s : ByteArray) (a : Nat) (w : World) (h : Ps w b s a false) (hs : s.size ≤ 100000) (ha : a ≤ s.size) :
    Calls Tryz.prog 56 #[.pointer (some ⟨b, 0, none⟩)] w fun e w' => ∃ (l : List T) (g c a' : Nat) (bad' : Bool), e = .returned (.slice (some ⟨g, 0, none⟩) l.length c) ∧ OwnT w' w.heap.size g c l ∧ (Ps w' b s a' bad' ∧ w.grownBy w' (some b)) ∧ l.length ≤ 7 ∧ a' ≤ s.size + 2 ∧
      (bad' = false → a' ≤ s.size ∧ tiersS 7 (left s a) = some (l, left s a')) ∧ (bad' = true → tiersS 7 (left s a) = none) := by
  obtain ⟨inf, hinf, hzero, hsize, hbytes⟩ := infoEx
  have HF : ∀ x : T, (fT x).oneCell' = true ∧ (gT x).oneCell' = true := fun x => ⟨rfl, rfl⟩
  have hbw := h.lt
  have HP := hide h
  clear h
  go_enter Tryz.func56, Tryz.ntmps56
  go_wp2_with (fail)
  go_loopw [3] (fun out wr => ∃ (l : List T) (g c A : Nat) (bad : Bool), out = .slice (some ⟨g, 0, none⟩) l.length c ∧ l.length ≤ 7 ∧ A ≤ s.size + 2 ∧ Hid (OwnT wr w.heap.size g c l) ∧ Hid (Ps wr b s A bad) ∧ Hid (w.grownBy wr (some b)) ∧ Hid (TI s (left s a) l A bad)) (fun out _ => 7 - lenV out)
  case atStart =>
    refine ⟨[], _, 0, a, false, rfl, by simp, by omega, hide (Own2.new _ _ (by simp)), hide ((unhide HP).kept (below_alloc _ _)), hide (gb_of _ (below_alloc _ _)), hide ⟨fun _ => ⟨ha, ?_⟩, fun h => (by cases h), (by simp), (by omega)⟩⟩
    cases tiersS 7 (left s a) <;> rfl
  case round =>
    obtain ⟨l, g, c, A, bad, rfl, hl7, hA, ho, hp, hg, hi⟩ := hrel
    have hgw := (unhide hg).size
    obtain ⟨hog, hog2⟩ := (unhide ho).lt
    obtain ⟨⟨c0, c1, c2⟩, f1, f2⟩ := (unhide hp).cells
    cases bad with
    | true =>
      go_wp2_with (fail)
      go_ret
      exact ⟨l, g, c, A, true, rfl, unhide ho, ⟨unhide hp, unhide hg⟩, hl7, hA, fun h => (by cases h), fun _ => (unhide hi).no rfl⟩
    | false =>
      have hAs : A ≤ s.size := ((unhide hi).go rfl).1
      go_wp2_with (fail)
      refine (see b s A false wr (unhide hp) (by omega) (by omega)).mono ?_
      rintro e w1 ⟨rfl, hb1⟩
      have P1 := hide ((unhide hp).kept hb1)
      have G1 := hide (gb_trans (unhide hg) (gb_of _ hb1))
      have O1 := hide ((unhide ho).kept (World.grownBy.mk hb1.os hb1.tape hb1.output hb1.size (fun j hj _ => hb1.block j hj) : wr.grownBy w1 none) (by simp))
      clear hb1 hp hg ho c0 c1 c2 f1 f2
      have HH : Hid ((left s A).head? = some 32 ↔ seeB s A = 32) := hide (head_see (by decide))
      generalize seeB s A = x at *
      by_cases hx : x = 32
      case neg =>
        have hx1 : ((x.toNat : Int) == 32) = false := by
          rw [beq_eq_false_iff_ne]; intro e; apply hx; apply UInt8.toNat_inj.1; show _ = 32; omega
        have HT := hide ((unhide hi).stop (.inl (fun h => hx ((unhide HH).1 h))))
        clear HH hx
        go_wp2_with (fail)
        go_ret
        exact ⟨l, g, c, A, false, rfl, unhide O1, ⟨unhide P1, unhide G1⟩, hl7, hA, fun _ => unhide HT, fun h => (by cases h)⟩
      subst hx
      by_cases h6 : l.length ≤ 6
      case neg =>
        have h6i : ¬ ((l.length : Int) ≤ 6) := by omega
        have HT := hide ((unhide hi).stop (.inr (by omega)))
        clear HH
        go_wp2_with (fail)
        go_ret
        exact ⟨l, g, c, A, false, rfl, unhide O1, ⟨unhide P1, unhide G1⟩, hl7, hA, fun _ => unhide HT, fun h => (by cases h)⟩
      have h6i : ((l.length : Int) ≤ 6) := by omega
      have HH2 := hide ((unhide HH).2 rfl)
      clear HH
      go_wp2_with (fail)
      refine (wantR b s A false 32 w1 (unhide P1) (by omega) (by omega) (by decide)).mono ?_
      rintro e w2 ⟨rfl, b2, p2, g2, F1⟩
      have P2 := hide p2
      have G2 := hide (gb_trans (unhide G1) g2)
      have O2 := hide ((unhide O1).kept g2 (by simp; omega))
      have HF1 := hide F1
      clear p2 g2 F1 P1 G1 O1
      go_wp2_with (fail)
      refine (numR b s (A + 1) b2 w2 (unhide P2) (by omega) (by omega)).mono ?_
      rintro e w3 ⟨n1, A2, b3, rfl, ⟨p3, g3⟩, ha3, F2, N2⟩
      have P3 := hide p3
      have G3 := hide (gb_trans (unhide G2) g3)
      have O3 := hide ((unhide O2).kept g3 (by simp; omega))
      have HF2 := hide F2
      have HN2 := hide N2
      clear p3 g3 F2 N2 P2 G2 O2
      have k3 : w3.grownBy (w3.alloc (.cells #[.int .i64 n1, .int .i64 0] 107)) none := World.grownBy_alloc w3 _ _
      have hsz3 : w.heap.size ≤ w3.heap.size := (unhide G3).size
      have hog3 := (unhide O3).lt
      go_wp2_with (fail)
      refine (wantR b s A2 b3 58 _ ((unhide P3).kept (below_alloc _ _)) (by omega) (by omega) (by decide)).mono ?_
      rintro e w4 ⟨rfl, b4, p4, g4, F3⟩
      have P4 := hide p4
      have G4 := hide (gb_trans (unhide G3) (gb_trans (gb_of _ (below_alloc _ _)) g4))
      have O4 := hide (((unhide O3).kept k3 (by simp)).kept g4 (by simp; omega))
      have a4 : At w4 w3.heap.size [.int .i64 n1, .int .i64 0] := (At.new w3 #[.int .i64 n1, .int .i64 0] 107).kept (g4.block _ (by simp) (by simp; omega))
      have hz4 : w3.heap.size + 1 ≤ w4.heap.size := by have := g4.size; simpa using this
      have A4 := hide a4
      have HF3 := hide F3
      clear p4 g4 F3 P3 G3 O3 k3 a4
      go_wp2_with (fail)
      refine (numR b s (A2 + 1) b4 w4 (unhide P4) (by omega) (by omega)).mono ?_
      rintro e w5 ⟨n2, A5, b5, rfl, ⟨p5, g5⟩, ha5, F4, N4⟩
      have P5 := hide p5
      have G5 := hide (gb_trans (unhide G4) g5)
      have O5 := hide ((unhide O4).kept g5 (by simp; omega))
      have a5 : At w5 w3.heap.size [.int .i64 n1, .int .i64 0] := (unhide A4).kept (g5.block _ (by omega) (by simp; omega))
      obtain ⟨t1, t2⟩ := tier_chain (unhide HF1) (unhide HF2) (unhide HN2) (unhide HF3) F4 N4
      have HTI := hide ((unhide hi).next (by omega) (unhide HH2) (A4 := A5) (by omega) t1 t2)
      have hz5 : w3.heap.size + 1 ≤ w5.heap.size := Nat.le_trans hz4 g5.size
      obtain ⟨q0, r0⟩ := a5 0 _ rfl
      obtain ⟨q1, r1⟩ := a5 1 _ rfl
      have hlo : w.heap.size ≤ g ∧ g < w5.heap.size := (unhide O5).lt
      obtain ⟨W5, hW5⟩ : ∃ W, w5.setCell ⟨w3.heap.size, 1, none⟩ (.int .i64 n2) = W := ⟨_, rfl⟩
      have k5 : w5.grownBy W5 (some w3.heap.size) := by rw [← hW5]; exact gb_set _ _ _ _
      have z5 : W5.heap.size = w5.heap.size := by rw [← hW5]; simp
      have a6 : At W5 w3.heap.size [.int .i64 n1, .int .i64 n2] := by rw [← hW5]; exact a5.set 1 (.int .i64 n2)
      have P6 : Hid (Ps W5 b s A5 b5) := hide (At.kept (unhide P5) (k5.block _ (by omega) (by simp; omega)))
      have O6 : Hid (OwnT W5 w.heap.size g c l) := hide ((unhide O5).kept k5 (by simp; omega))
      have G6 : Hid (w.grownBy W5 (some b)) := hide (by
        have hh := unhide G5
        exact ⟨k5.os.trans hh.os, k5.tape.trans hh.tape, k5.output.trans hh.output, Nat.le_trans hh.size k5.size, fun j hj hne => (k5.block j (Nat.lt_of_lt_of_le hj hh.size) (by simp; omega)).trans (hh.block j hj hne)⟩)
      obtain ⟨v0, _⟩ := a6 0 _ rfl
      obtain ⟨v1, _⟩ := a6 1 _ rfl
      have hlo6 : w.heap.size ≤ g ∧ g < W5.heap.size := (unhide O6).lt
      have hZ := hide z5
      clear p5 g5 F4 N4 t1 t2 HF1 HF2 HF3 HN2 HH2 hi P4 G4 O4 A4 a5 a6 k5 P5 O5 G5 z5
      go_wp2_with (first
                         | (at_builtin
                            refine listApp2 (e := 107) (f := fT) (g := gT) _ Tryz.underlying23 hinf hzero hsize hbytes rfl (by omega) HF rfl _ _ rfl w.heap.size g c _ l.length l (n1, n2) rfl rfl (Own2.kept (unhide O6) (World.grownBy_alloc _ _ none) (by simp)) rfl (MapKept.heap_alloc _ _).1 (by omega) (by simp; omega) ?_
                            intro gb cb w6 ho hgr hat hlt6
                            have hg7 : W5.grownBy w6 (some g) := grown_trans (World.grownBy_alloc _ _ _) hgr
                            have P7 := hide (At.kept (unhide P6) (hg7.block b (by have := unhide hZ; omega) (by simp; omega)))
                            have G7 : Hid (w.grownBy w6 (some b)) := hide (by
                              have hh := unhide G6
                              exact ⟨hg7.os.trans hh.os, hg7.tape.trans hh.tape, hg7.output.trans hh.output, Nat.le_trans hh.size hg7.size, fun j hj hne => (hg7.block j (Nat.lt_of_lt_of_le hj hh.size) (by simp; omega)).trans (hh.block j hj hne)⟩)
                            have O7 := hide ho
                            clear ho hgr hat hg7 P6 G6 O6))
      exact ⟨⟨l ++ [(n1, n2)], gb, cb, A5, b5, by rw [List.length_append]; rfl, by simp; omega, by omega, O7, P7, G7, HTI⟩, by simp [lenV]; omega⟩

theorem OwnT.low {W : World} {B B' g c : Nat} {l : List T} (h : OwnT W B g c l) (hb : B' ≤ B) : OwnT W B' g c l := Draw.ownsRow_le h hb
theorem OwnT.tl {W : World} {B g c : Nat} {l : List T} (h : OwnT W B g c l) : TL B W.heap.size W (.slice (some ⟨g, 0, none⟩) l.length c) l := by
  refine .inr ⟨g, 0, c, rfl, h.lt.1, h.lt.2, fun i hi => ?_⟩
  have := h.cells i (l.getD i T0) (by simp [List.getD, hi])
  rw [Nat.zero_add]
  exact this
theorem tiersBad (b : Nat) (s : ByteArray) (a : Nat) (w : World) (h : Ps w b s a true) :
    Calls Tryz.prog 56 #[.pointer (some ⟨b, 0, none⟩)] w fun e w' => ∃ (g c : Nat), e = .returned (.slice (some ⟨g, 0, none⟩) 0 c) ∧ OwnT w' w.heap.size g c [] ∧ Ps w' b s a true ∧ w.grownBy w' (some b) := by
  obtain ⟨⟨c0, c1, c2⟩, f1, f2⟩ := h.cells
  have hlt := h.lt
  have HP := hide h
  clear h
  go_enter Tryz.func56, Tryz.ntmps56
  go_wp2_with (fail)
  refine wp_loop_rounds 1 ?_
  rw [rounds_succ]
  go_wp2_with (fail)
  go_ret
  exact ⟨_, 0, rfl, Own2.new _ _ (by simp), (unhide HP).kept (below_alloc _ _), gb_of _ (below_alloc _ _)⟩
theorem tiersAny (b : Nat) (s : ByteArray) (a : Nat) (bad : Bool) (w : World) (h : Ps w b s a bad) (hs : s.size ≤ 100000) (ha : a ≤ s.size + 100) (ha' : bad = false → a ≤ s.size) :
    Calls Tryz.prog 56 #[.pointer (some ⟨b, 0, none⟩)] w fun e w' => ∃ (l : List T) (g c a' : Nat) (bad' : Bool), e = .returned (.slice (some ⟨g, 0, none⟩) l.length c) ∧ OwnT w' w.heap.size g c l ∧ (Ps w' b s a' bad' ∧ w.grownBy w' (some b)) ∧ l.length ≤ 7 ∧ (a' ≤ a ∨ a' ≤ s.size + 2) ∧
      (bad = true → bad' = true) ∧ (bad' = false → a' ≤ s.size ∧ tiersS 7 (left s a) = some (l, left s a')) ∧ (bad' = true → bad = true ∨ tiersS 7 (left s a) = none) := by
  cases bad with
  | false =>
    refine (tiersR b s a w h hs (ha' rfl)).mono ?_
    rintro e w' ⟨l, g, c, a', bad', h1, h2, h3, h4, h5, h6, h7⟩
    exact ⟨l, g, c, a', bad', h1, h2, h3, h4, .inr h5, fun h => (by cases h), h6, fun h => .inr (h7 h)⟩
  | true =>
    refine (tiersBad b s a w h).mono ?_
    rintro e w' ⟨g, c, h1, h2, h3, h4⟩
    exact ⟨[], g, c, a, true, h1, h2, ⟨h3, h4⟩, by simp, .inl (Nat.le_refl _), fun _ => rfl, fun h => (by cases h), fun _ => .inl rfl⟩
end Go.Proofs.YtkdaljonmkfdaaaGreatDoor.Rule
end
