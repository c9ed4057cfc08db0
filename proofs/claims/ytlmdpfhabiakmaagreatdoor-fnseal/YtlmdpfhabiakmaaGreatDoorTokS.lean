/-
  The document's SealText, SealMake, SealCheck.
-/
import Derived.Test.YtlmdpfhabiakmaaGreatDoorTok
import Derived.Test.YtlmdpfhabiakmaaGreatDoorBoxes
namespace Go.Proofs.YtlmdpfhabiakmaaGreatDoor.Tok
set_option linter.unusedVariables false
open Go.RowKit
open Num (bytesOf)
open Strs hiding hide unhide below_trans
open Mac (hide unhide below_trans macL macL_bd macI macS)
open Boxes (At box1 box2)

/-- the text of a token: empty, if it has not the form of one -/
def textT (r u e m : Int) : List UInt8 := if formB r u e m = true then ptL r u e m else []
def makeB (t r u e : Int) : Bool := formB r u e 0 && tenB t
/-- the token that is made -/
def makeT (k t r u e : Int) : Int × Int × Int × Int := if makeB t r u e = true then (r, u, e, macL k (ptL t r u e)) else (0, 0, 0, 0)
abbrev tokP (p : Int × Int × Int × Int) : Value := tokV p.1 p.2.1 p.2.2.1 p.2.2.2
/-- what is found of a token -/
def codeT (k t r u e m now ep : Int) : Int :=
  if (formB r u e m && tenB t) = true then (if m ≠ macL k (ptL t r u e) then 1 else if e ≠ ep then 3 else if u < now then 2 else 0) else 4

theorem by_list (l : List UInt8) : (bytesOf l).data.toList = l := by simp [bytesOf]
theorem pt_len {a b c d : Int} (ha : i64 a) (hb : i64 b) (hc : i64 c) (hd : i64 d) : (ptL a b c d).length ≤ 87 := by
  have l1 := itoa20 a ha.1 ha.2
  have l2 := itoa20 b hb.1 hb.2
  have l3 := itoa20 c hc.1 hc.2
  have l4 := itoa20 d hd.1 hd.2
  simp [ptL]; omega
theorem macS' (k : Int) (l : List UInt8) (hl : l.length ≤ 1000) (w : World) : Calls Tryz.prog 19 #[.int .i64 k, .string (bytesOf l)] w fun x w' => x = .returned (.int .i64 (macL k l)) ∧ Below w.heap.size w w' := by
  have h := macS k (bytesOf l) w (by unfold maxLen; show l.toArray.size ≤ _; simp; omega)
  rw [by_list] at h; exact h
theorem macI' (k : Int) (l : List UInt8) (hl : l.length ≤ 1000) (w : World) : Calls Tryz.prog 30 #[.int .i64 k, .string (bytesOf l)] w fun x w' => x = .returned (.int .i64 (macL k l)) ∧ Below w.heap.size w w' := by
  have h := macI k (bytesOf l) w (by unfold maxLen; show l.toArray.size ≤ _; simp; omega)
  rw [by_list] at h; exact h
theorem form_i64 {r u e m : Int} (h : formB r u e m = true) : i64 r ∧ i64 u ∧ i64 e ∧ i64 m := by
  have := form_iff.1 h; unfold i64; omega

set_option maxHeartbeats 1000000 in
/-- spec.SealText -/
theorem textS (r u e m : Int) (w : World) : Calls Tryz.prog 21 #[tokV r u e m] w fun x w' => x = .returned (.string (bytesOf (textT r u e m))) ∧ Below w.heap.size w w' := by
  cases hF : formB r u e m with
  | false =>
    have HE : Hid (bytesOf (textT r u e m) = ByteArray.empty) := hide (by unfold textT; rw [hF]; rfl)
    go_enter Tryz.func21, Tryz.ntmps21
    go_wp2_with fail
    refine (l6FormS r u e m _).mono ?_
    rintro x w1 ⟨rfl, hb1⟩
    rw [hF]
    go_wp2_with fail
    go_ret
    exact ⟨ret_by (unhide HE).symm, below_trans (below_alloc _ _) hb1⟩
  | true =>
    obtain ⟨hr, hu, he, hm⟩ := form_i64 hF
    have HF := hide hF
    have l1 := itoa20 r hr.1 hr.2
    have l2 := itoa20 u hu.1 hu.2
    have l3 := itoa20 e he.1 he.2
    have l4 := itoa20 m hm.1 hm.2
    have C1 := hide (decS r hr)
    have C2 := hide (decS u hu)
    have C3 := hide (decS e he)
    have C4 := hide (decS m hm)
    have HE : Hid (textT r u e m = ptL r u e m) := hide (by unfold textT; rw [if_pos hF])
    rw [unhide HE]
    clear hr hu he hm HE hF
    unfold ptL
    generalize Lib.itoa r = L1 at *
    generalize Lib.itoa u = L2 at *
    generalize Lib.itoa e = L3 at *
    generalize Lib.itoa m = L4 at *
    go_enter Tryz.func21, Tryz.ntmps21
    go_wp2_with fail
    refine (l6FormS r u e m _).mono ?_
    rintro x w1 ⟨rfl, hb1⟩
    rw [unhide HF]
    obtain ⟨q0, q1, q2, q3⟩ := new4 w (.int .i64 r) (.int .i64 u) (.int .i64 e) (.int .i64 m) 26
    have Q5 : Hid (Box4 w1 w.heap.size (.int .i64 r) (.int .i64 u) (.int .i64 e) (.int .i64 m)) := hide (Box4.kept ⟨q0, q1, q2, q3⟩ hb1)
    have B5 : Hid (Below w.heap.size w w1) := hide (below_trans (below_alloc _ _) hb1)
    clear q0 q1 q2 q3 hb1
    obtain ⟨q0, q1, q2, q3⟩ := unhide Q5
    have b1 : ¬ 9223372036854775807 < L1.length + 1 := by omega
    have b2 : ¬ 9223372036854775807 < L1.length + 1 + L2.length := by omega
    have b3 : ¬ 9223372036854775807 < L1.length + 1 + L2.length + 1 := by omega
    have b4 : ¬ 9223372036854775807 < L1.length + 1 + L2.length + 1 + L3.length := by omega
    have b5 : ¬ 9223372036854775807 < L1.length + 1 + L2.length + 1 + L3.length + 1 := by omega
    have b6 : ¬ 9223372036854775807 < L1.length + 1 + L2.length + 1 + L3.length + 1 + L4.length := by omega
    go_wp2_with fail
    go_region_held3 (fun w2 => w2.cell? ⟨w.heap.size, 0, none⟩ = some (.int .i64 r) ∧ w2.cell? ⟨w.heap.size, 1, none⟩ = some (.int .i64 u) ∧ w2.cell? ⟨w.heap.size, 2, none⟩ = some (.int .i64 e) ∧ w2.cell? ⟨w.heap.size, 3, none⟩ = some (.int .i64 m)) (go_keep)
      (first | (go_at_call_of 34 (Value.int .i64 r); refine (unhide C1 _).mono ?_; rintro x w2 ⟨rfl, hb2⟩; have hB1 : Below w1.heap.size w1 w2 := ⟨hb2.os, hb2.tape, hb2.output, hb2.size, hb2.block⟩; clear hb2; obtain ⟨r0, r1, r2, r3⟩ := (unhide Q5).kept hB1) | (go_at_call_of 34 (Value.int .i64 u); refine (unhide C2 _).mono ?_; rintro x w3 ⟨rfl, hb3⟩; have hB2 : Below w1.heap.size w1 w3 := below_trans hB1 hb3; clear hb3; obtain ⟨s0, s1, s2, s3⟩ := (unhide Q5).kept hB2) | (go_at_call_of 34 (Value.int .i64 e); refine (unhide C3 _).mono ?_; rintro x w4 ⟨rfl, hb4⟩; have hB3 : Below w1.heap.size w1 w4 := below_trans hB2 hb4; clear hb4; obtain ⟨t0, t1, t2, t3⟩ := (unhide Q5).kept hB3) | (go_at_call_of 34 (Value.int .i64 m); refine (unhide C4 _).mono ?_; rintro x w5 ⟨rfl, hb5⟩; have hB4 : Below w1.heap.size w1 w5 := below_trans hB3 hb5; clear hb5; obtain ⟨u0, u1, u2, u3⟩ := (unhide Q5).kept hB4))
    go_wp2
    go_ret
    exact ⟨ret_by (pt_cat _ _ _ _), below_trans (unhide B5) hB4⟩

/-- the ways of a tenant -/
theorem ten_cases (t : Int) : (tenB t = true ∧ 0 ≤ t ∧ t ≤ 9) ∨ (tenB t = false ∧ (t < 0 ∨ (0 ≤ t ∧ 9 < t))) := by
  cases h : tenB t with
  | true => exact .inl ⟨rfl, ten_iff.1 h⟩
  | false => have := ten_not.1 h; exact .inr ⟨rfl, by omega⟩
theorem below_alloc2 (w : World) (o o' : Obj) : Below w.heap.size w ((w.alloc o).alloc o') := (below_alloc w o).alloc (by simp) _

theorem at4 {W : World} {b : Nat} {v0 v1 v2 v3 : Value} (h : At W b [v0, v1, v2, v3]) : (W.cell? ⟨b, 0, none⟩ = some v0 ∧ W.cell? ⟨b, 1, none⟩ = some v1 ∧ W.cell? ⟨b, 2, none⟩ = some v2 ∧ W.cell? ⟨b, 3, none⟩ = some v3) ∧ W.frozen? ⟨b, 0, none⟩ = false ∧ W.frozen? ⟨b, 1, none⟩ = false ∧ W.frozen? ⟨b, 2, none⟩ = false ∧ W.frozen? ⟨b, 3, none⟩ = false :=
  ⟨⟨(h 0 _ rfl).1, (h 1 _ rfl).1, (h 2 _ rfl).1, (h 3 _ rfl).1⟩, (h 0 _ rfl).2, (h 1 _ rfl).2, (h 2 _ rfl).2, (h 3 _ rfl).2⟩
theorem ret_int {a b : Int} (h : a = b) : Ending.returned (.int .i64 a) = .returned (.int .i64 b) := by rw [h]
theorem ret_v {a b : Value} (h : a = b) : Ending.returned a = .returned b := by rw [h]
theorem set4 {B b : Nat} {w W : World} (h : Below B w W) (hb : B ≤ b) (v0 v1 v2 v3 : Value) : Below B w ((((W.setCell ⟨b, 0, none⟩ v0).setCell ⟨b, 1, none⟩ v1).setCell ⟨b, 2, none⟩ v2).setCell ⟨b, 3, none⟩ v3) :=
  (((h.setCell hb _).setCell hb _).setCell hb _).setCell hb _

set_option maxHeartbeats 1000000 in
/-- spec.SealMake -/
theorem makeS (k t r u e : Int) (w : World) (ht : i64 t) (hr : i64 r) (hu : i64 u) (he : i64 e) : Calls Tryz.prog 6 #[.int .i64 k, .int .i64 t, .int .i64 r, .int .i64 u, .int .i64 e] w fun x w' => x = .returned (tokP (makeT k t r u e)) ∧ Below w.heap.size w w' := by
  have HL := hide (pt_len ht hr hu he)
  have CB := hide (fun w => bodyS t r u e 0 w ht hr hu he)
  clear ht hr hu he
  cases hF : formB r u e 0 with
  | false =>
    have HE : Hid (tokP (makeT k t r u e) = tokV 0 0 0 0) := hide (by unfold makeT makeB; rw [hF]; rfl)
    rw [unhide HE]
    go_enter Tryz.func6, Tryz.ntmps6
    go_wp2_with fail
    refine (l6FormS r u e 0 _).mono ?_
    rintro x w1 ⟨rfl, hb1⟩
    rw [hF]
    obtain ⟨A0, A1, hB, hz⟩ := box2 hb1
    clear hb1
    obtain ⟨⟨c0, c1, c2, c3⟩, f0, f1, f2, f3⟩ := at4 A0
    go_wp2_with fail
    exact bodyPost_ret (v := tokV 0 0 0 0) (by simp [results, Tryz.results6, go_sem, c0, c1, c2, c3]) rfl ⟨rfl, set4 hB (Nat.le_refl _) _ _ _ _⟩
  | true =>
    rcases ten_cases t with ⟨hT, t0, t1⟩ | ⟨hT, t0 | ⟨t0, t1⟩⟩
    · have HE : Hid (tokP (makeT k t r u e) = tokV r u e (macL k (ptL t r u e))) := hide (by unfold makeT makeB; rw [hF, hT]; rfl)
      rw [unhide HE]
      go_enter Tryz.func6, Tryz.ntmps6
      go_wp2_with fail
      refine (l6FormS r u e 0 _).mono ?_
      rintro x w1 ⟨rfl, hb1⟩
      rw [hF]
      obtain ⟨A0, A1, hB, hz⟩ := box2 hb1
      clear hb1
      obtain ⟨⟨c0, c1, c2, c3⟩, f0, f1, f2, f3⟩ := at4 A1
      go_wp2_with fail
      refine (unhide CB _).mono ?_
      rintro x w2 ⟨rfl, hb2⟩
      have A0 := A0.below hb2 (by omega)
      have A1 := A1.below hb2 (by omega)
      have hB := below_trans hB hb2
      have hz := Nat.le_trans hz hb2.size
      clear hb2 c0 c1 c2 c3 f0 f1 f2 f3
      go_wp2_with fail
      refine (macS' k (ptL t r u e) (by have := unhide HL; omega) _).mono ?_
      rintro x w3 ⟨rfl, hb3⟩
      have A0 := A0.below hb3 (by omega)
      have A1 := A1.below hb3 (by omega)
      have hB := below_trans hB hb3
      clear hb3
      generalize hM : macL k (ptL t r u e) = M
      have HM := hide hM
      clear hM
      obtain ⟨⟨c0, c1, c2, c3⟩, f0, f1, f2, f3⟩ := at4 A1
      obtain ⟨⟨d0, d1, d2, d3⟩, g0, g1, g2, g3⟩ := at4 A0
      go_wp2_with fail
      exact bodyPost_ret (v := tokV r u e M) (by simp [results, Tryz.results6, go_sem, d0, d1, d2, d3]) rfl ⟨ret_v (by rw [unhide HM]), set4 (hB.setCell (by simp) _) (Nat.le_refl _) _ _ _ _⟩
    all_goals
      have HE : Hid (tokP (makeT k t r u e) = tokV 0 0 0 0) := hide (by unfold makeT makeB; rw [hF, hT]; rfl)
      rw [unhide HE]
      go_enter Tryz.func6, Tryz.ntmps6
      go_wp2_with fail
      refine (l6FormS r u e 0 _).mono ?_
      rintro x w1 ⟨rfl, hb1⟩
      rw [hF]
      obtain ⟨A0, A1, hB, hz⟩ := box2 hb1
      clear hb1
      obtain ⟨⟨c0, c1, c2, c3⟩, f0, f1, f2, f3⟩ := at4 A0
      go_wp2_with fail
      exact bodyPost_ret (v := tokV 0 0 0 0) (by simp [results, Tryz.results6, go_sem, c0, c1, c2, c3]) rfl ⟨rfl, set4 hB (Nat.le_refl _) _ _ _ _⟩

end Go.Proofs.YtlmdpfhabiakmaaGreatDoor.Tok
