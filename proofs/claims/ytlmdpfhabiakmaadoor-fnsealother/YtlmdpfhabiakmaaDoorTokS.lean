/-
  The document's SealText, SealMake, SealCheck.
-/
import Derived.Test.YtlmdpfhabiakmaaDoorTok
import Derived.Test.YtlmdpfhabiakmaaDoorBoxes
namespace Go.Proofs.YtlmdpfhabiakmaaDoor.Tok
set_option linter.unusedVariables false
open Go.RowKit
open Num (bytesOf)
open Strs hiding hide unhide below_trans
open Mac (hide unhide below_trans macL macL_bd macI macS)
open Boxes (At box1 box2)

/-- the text of a token: empty, if it has not the form of one -/
def textT (r u e m : Int) : List UInt8 := if formB r u e m = true then ptL r u e m else []
def makeB (t r u e : Int) : Bool := formB r u e 0 && tenB t
/-- the token that is made -/
def makeT (k t r u e : Int) : Int × Int × Int × Int := if makeB t r u e = true then (r, u, e, macL k (ptL t r u e)) else (0, 0, 0, 0)
abbrev tokP (p : Int × Int × Int × Int) : Value := tokV p.1 p.2.1 p.2.2.1 p.2.2.2
/-- what is found of a token -/
def codeT (k t r u e m now ep : Int) : Int :=
  if (formB r u e m && tenB t) = true then (if m ≠ macL k (ptL t r u e) then 1 else if e ≠ ep then 3 else if u < now then 2 else 0) else 4

theorem by_list (l : List UInt8) : (bytesOf l).data.toList = l := by simp [bytesOf]
theorem pt_len {a b c d : Int} (ha : i64 a) (hb : i64 b) (hc : i64 c) (hd : i64 d) : (ptL a b c d).length ≤ 87 := by
  have l1 := itoa20 a ha.1 ha.2
  have l2 := itoa20 b hb.1 hb.2
  have l3 := itoa20 c hc.1 hc.2
  have l4 := itoa20 d hd.1 hd.2
  simp [ptL]; omega
theorem macS' (k : Int) (l : List UInt8) (hl : l.length ≤ 1000) (w : World) : Calls Tryd.prog 14 #[.int .i64 k, .string (bytesOf l)] w fun x w' => x = .returned (.int .i64 (macL k l)) ∧ Below w.heap.size w w' := by
  have h := macS k (bytesOf l) w (by unfold maxLen; show l.toArray.size ≤ _; simp; omega)
  rw [by_list] at h; exact h
theorem macI' (k : Int) (l : List UInt8) (hl : l.length ≤ 1000) (w : World) : Calls Tryd.prog 26 #[.int .i64 k, .string (bytesOf l)] w fun x w' => x = .returned (.int .i64 (macL k l)) ∧ Below w.heap.size w w' := by
  have h := macI k (bytesOf l) w (by unfold maxLen; show l.toArray.size ≤ _; simp; omega)
  rw [by_list] at h; exact h
theorem form_i64 {r u e m : Int} (h : formB r u e m = true) : i64 r ∧ i64 u ∧ i64 e ∧ i64 m := by
  have := form_iff.1 h; unfold i64; omega

/-- the ways of a tenant -/
theorem ten_cases (t : Int) : (tenB t = true ∧ 0 ≤ t ∧ t ≤ 9) ∨ (tenB t = false ∧ (t < 0 ∨ (0 ≤ t ∧ 9 < t))) := by
  cases h : tenB t with
  | true => exact .inl ⟨rfl, ten_iff.1 h⟩
  | false => have := ten_not.1 h; exact .inr ⟨rfl, by omega⟩
theorem below_alloc2 (w : World) (o o' : Obj) : Below w.heap.size w ((w.alloc o).alloc o') := (below_alloc w o).alloc (by simp) _

theorem at4 {W : World} {b : Nat} {v0 v1 v2 v3 : Value} (h : At W b [v0, v1, v2, v3]) : (W.cell? ⟨b, 0, none⟩ = some v0 ∧ W.cell? ⟨b, 1, none⟩ = some v1 ∧ W.cell? ⟨b, 2, none⟩ = some v2 ∧ W.cell? ⟨b, 3, none⟩ = some v3) ∧ W.frozen? ⟨b, 0, none⟩ = false ∧ W.frozen? ⟨b, 1, none⟩ = false ∧ W.frozen? ⟨b, 2, none⟩ = false ∧ W.frozen? ⟨b, 3, none⟩ = false :=
  ⟨⟨(h 0 _ rfl).1, (h 1 _ rfl).1, (h 2 _ rfl).1, (h 3 _ rfl).1⟩, (h 0 _ rfl).2, (h 1 _ rfl).2, (h 2 _ rfl).2, (h 3 _ rfl).2⟩
theorem ret_int {a b : Int} (h : a = b) : Ending.returned (.int .i64 a) = .returned (.int .i64 b) := by rw [h]
theorem ret_v {a b : Value} (h : a = b) : Ending.returned a = .returned b := by rw [h]
theorem set4 {B b : Nat} {w W : World} (h : Below B w W) (hb : B ≤ b) (v0 v1 v2 v3 : Value) : Below B w ((((W.setCell ⟨b, 0, none⟩ v0).setCell ⟨b, 1, none⟩ v1).setCell ⟨b, 2, none⟩ v2).setCell ⟨b, 3, none⟩ v3) :=
  (((h.setCell hb _).setCell hb _).setCell hb _).setCell hb _

set_option maxHeartbeats 1000000 in
/-- spec.SealMake -/
theorem makeS (k t r u e : Int) (w : World) (ht : i64 t) (hr : i64 r) (hu : i64 u) (he : i64 e) : Calls Tryd.prog 19 #[.int .i64 k, .int .i64 t, .int .i64 r, .int .i64 u, .int .i64 e] w fun x w' => x = .returned (tokP (makeT k t r u e)) ∧ Below w.heap.size w w' := by
  have HL := hide (pt_len ht hr hu he)
  have CB := hide (fun w => bodyS t r u e 0 w ht hr hu he)
  clear ht hr hu he
  cases hF : formB r u e 0 with
  | false =>
    have HE : Hid (tokP (makeT k t r u e) = tokV 0 0 0 0) := hide (by unfold makeT makeB; rw [hF]; rfl)
    rw [unhide HE]
    go_enter Tryd.func19, Tryd.ntmps19
    go_wp2_with fail
    refine (l6FormS r u e 0 _).mono ?_
    rintro x w1 ⟨rfl, hb1⟩
    rw [hF]
    obtain ⟨A0, A1, hB, hz⟩ := box2 hb1
    clear hb1
    obtain ⟨⟨c0, c1, c2, c3⟩, f0, f1, f2, f3⟩ := at4 A0
    go_wp2_with fail
    exact bodyPost_ret (v := tokV 0 0 0 0) (by simp [results, Tryd.results19, go_sem, c0, c1, c2, c3]) rfl ⟨rfl, set4 hB (Nat.le_refl _) _ _ _ _⟩
  | true =>
    rcases ten_cases t with ⟨hT, t0, t1⟩ | ⟨hT, t0 | ⟨t0, t1⟩⟩
    · have HE : Hid (tokP (makeT k t r u e) = tokV r u e (macL k (ptL t r u e))) := hide (by unfold makeT makeB; rw [hF, hT]; rfl)
      rw [unhide HE]
      go_enter Tryd.func19, Tryd.ntmps19
      go_wp2_with fail
      refine (l6FormS r u e 0 _).mono ?_
      rintro x w1 ⟨rfl, hb1⟩
      rw [hF]
      obtain ⟨A0, A1, hB, hz⟩ := box2 hb1
      clear hb1
      obtain ⟨⟨c0, c1, c2, c3⟩, f0, f1, f2, f3⟩ := at4 A1
      go_wp2_with fail
      refine (unhide CB _).mono ?_
      rintro x w2 ⟨rfl, hb2⟩
      have A0 := A0.below hb2 (by omega)
      have A1 := A1.below hb2 (by omega)
      have hB := below_trans hB hb2
      have hz := Nat.le_trans hz hb2.size
      clear hb2 c0 c1 c2 c3 f0 f1 f2 f3
      go_wp2_with fail
      refine (macS' k (ptL t r u e) (by have := unhide HL; omega) _).mono ?_
      rintro x w3 ⟨rfl, hb3⟩
      have A0 := A0.below hb3 (by omega)
      have A1 := A1.below hb3 (by omega)
      have hB := below_trans hB hb3
      clear hb3
      generalize hM : macL k (ptL t r u e) = M
      have HM := hide hM
      clear hM
      obtain ⟨⟨c0, c1, c2, c3⟩, f0, f1, f2, f3⟩ := at4 A1
      obtain ⟨⟨d0, d1, d2, d3⟩, g0, g1, g2, g3⟩ := at4 A0
      go_wp2_with fail
      exact bodyPost_ret (v := tokV r u e M) (by simp [results, Tryd.results19, go_sem, d0, d1, d2, d3]) rfl ⟨ret_v (by rw [unhide HM]), set4 (hB.setCell (by simp) _) (Nat.le_refl _) _ _ _ _⟩
    all_goals
      have HE : Hid (tokP (makeT k t r u e) = tokV 0 0 0 0) := hide (by unfold makeT makeB; rw [hF, hT]; rfl)
      rw [unhide HE]
      go_enter Tryd.func19, Tryd.ntmps19
      go_wp2_with fail
      refine (l6FormS r u e 0 _).mono ?_
      rintro x w1 ⟨rfl, hb1⟩
      rw [hF]
      obtain ⟨A0, A1, hB, hz⟩ := box2 hb1
      clear hb1
      obtain ⟨⟨c0, c1, c2, c3⟩, f0, f1, f2, f3⟩ := at4 A0
      go_wp2_with fail
      exact bodyPost_ret (v := tokV 0 0 0 0) (by simp [results, Tryd.results19, go_sem, c0, c1, c2, c3]) rfl ⟨rfl, set4 hB (Nat.le_refl _) _ _ _ _⟩

set_option maxHeartbeats 1000000 in
/-- spec.SealCheck -/
theorem checkS (k t r u e m now ep : Int) (w : World) (ht : i64 t) (hr : i64 r) (hu : i64 u) (he : i64 e) : Calls Tryd.prog 6 #[.int .i64 k, .int .i64 t, tokV r u e m, .int .i64 now, .int .i64 ep] w fun x w' => x = .returned (.int .i64 (codeT k t r u e m now ep)) ∧ Below w.heap.size w w' := by
  have HL := hide (pt_len ht hr hu he)
  have CB := hide (fun w => bodyS t r u e m w ht hr hu he)
  clear ht hr hu he
  cases hF : formB r u e m with
  | false =>
    have HE : Hid (codeT k t r u e m now ep = 4) := hide (by unfold codeT; rw [hF]; rfl)
    rw [unhide HE]
    go_enter Tryd.func6, Tryd.ntmps6
    go_wp2_with fail
    refine (l6FormS r u e m _).mono ?_
    rintro x w1 ⟨rfl, hb1⟩
    rw [hF]
    go_wp2_with fail
    go_ret
    exact ⟨rfl, below_trans (below_alloc _ _) hb1⟩
  | true =>
    rcases ten_cases t with ⟨hT, t0, t1⟩ | ⟨hT, t0 | ⟨t0, t1⟩⟩
    · have HC : Hid (codeT k t r u e m now ep = if m ≠ macL k (ptL t r u e) then 1 else if e ≠ ep then 3 else if u < now then 2 else 0) := hide (by unfold codeT; rw [hF, hT]; rfl)
      go_enter Tryd.func6, Tryd.ntmps6
      go_wp2_with fail
      refine (l6FormS r u e m _).mono ?_
      rintro x w1 ⟨rfl, hb1⟩
      rw [hF]
      obtain ⟨A0, hB, hz⟩ := box1 hb1
      clear hb1
      obtain ⟨⟨c0, c1, c2, c3⟩, f0, f1, f2, f3⟩ := at4 A0
      go_wp2_with fail
      go_region_held3 (fun w2 => w2.cell? ⟨w.heap.size, 0, none⟩ = some (.int .i64 r) ∧ w2.cell? ⟨w.heap.size, 1, none⟩ = some (.int .i64 u) ∧ w2.cell? ⟨w.heap.size, 2, none⟩ = some (.int .i64 e) ∧ w2.cell? ⟨w.heap.size, 3, none⟩ = some (.int .i64 m)) (go_keep)
        (first | (go_at_call 15; refine (unhide CB _).mono ?_; rintro x w2 ⟨rfl, hb2⟩; have hB1 : Below w1.heap.size w1 w2 := ⟨hb2.os, hb2.tape, hb2.output, hb2.size, hb2.block⟩; clear hb2; have A1 := A0.below hB1 (by omega); obtain ⟨⟨r0, r1, r2, r3⟩, _⟩ := at4 A1) | (go_at_call 14; refine (macS' k (ptL t r u e) (by have := unhide HL; omega) _).mono ?_; rintro x w3 ⟨rfl, hb3⟩; have hB2 : Below w1.heap.size w1 w3 := below_trans hB1 hb3; clear hb3; have A2 := A0.below hB2 (by omega); obtain ⟨⟨s0, s1, s2, s3⟩, _⟩ := at4 A2))
      generalize macL k (ptL t r u e) = M at HC
      have hB := below_trans hB hB2
      by_cases h1 : m = M
      · subst h1
        by_cases h2 : e = ep
        · subst h2
          by_cases h3 : u < now
          · have HE : Hid (codeT k t r u e m now e = 2) := hide (by rw [unhide HC]; simp [h3])
            clear HC
            go_wp2
            go_ret
            exact ⟨ret_int (unhide HE).symm, hB⟩
          · have HE : Hid (codeT k t r u e m now e = 0) := hide (by rw [unhide HC]; simp [h3])
            clear HC
            go_wp2
            go_ret
            exact ⟨ret_int (unhide HE).symm, hB⟩
        · have HE : Hid (codeT k t r u e m now ep = 3) := hide (by rw [unhide HC]; simp [h2])
          clear HC
          go_wp2
          go_ret
          exact ⟨ret_int (unhide HE).symm, hB⟩
      · have HE : Hid (codeT k t r u e m now ep = 1) := hide (by rw [unhide HC]; simp [h1])
        clear HC
        go_wp2
        go_ret
        exact ⟨ret_int (unhide HE).symm, hB⟩
    all_goals
      have HE : Hid (codeT k t r u e m now ep = 4) := hide (by unfold codeT; rw [hF, hT]; rfl)
      rw [unhide HE]
      go_enter Tryd.func6, Tryd.ntmps6
      go_wp2_with fail
      refine (l6FormS r u e m _).mono ?_
      rintro x w1 ⟨rfl, hb1⟩
      rw [hF]
      go_wp2_with fail
      go_ret
      exact ⟨rfl, below_trans (below_alloc _ _) hb1⟩
end Go.Proofs.YtlmdpfhabiakmaaDoor.Tok
