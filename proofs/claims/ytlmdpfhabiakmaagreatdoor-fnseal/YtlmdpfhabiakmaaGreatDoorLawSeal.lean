/-
  FnSeal.
-/
import Derived.Test.YtlmdpfhabiakmaaGreatDoorDrawMk
import Derived.Test.YtlmdpfhabiakmaaGreatDoorTokC
import Derived.Test.YtlmdpfhabiakmaaGreatDoorRdTI
import Derived.Test.YtlmdpfhabiakmaaGreatDoorRdTS
namespace Go.Proofs.YtlmdpfhabiakmaaGreatDoor.Tok
set_option linter.unusedVariables false
open Go.RowKit
open Num (bytesOf)
open Mac (hide unhide below_trans macL macL_bd)
open Strs hiding hide unhide below_trans
open Boxes (At box1 box2)
open Draw (Bytes)
open EnvA (Env)

theorem zero_form : formB 0 0 0 0 = false := by decide
theorem text_zero : textT 0 0 0 0 = [] := by decide
/-- a token is made, or none is -/
theorem make_two (k t r u e : Int) : (makeT k t r u e = (0, 0, 0, 0)) ∨ (makeT k t r u e = (r, u, e, macL k (ptL t r u e)) ∧ formB r u e (macL k (ptL t r u e)) = true ∧ tenB t = true ∧ 1 ≤ r) := by
  have hm := macL_bd k (ptL t r u e)
  unfold makeT
  split
  · next h =>
    unfold makeB at h
    rw [Bool.and_eq_true] at h
    have h1 := form_iff.1 h.1
    exact .inr ⟨rfl, form_iff.2 (by omega), h.2, by omega⟩
  · exact .inl rfl
theorem is_tok {r u e m : Int} (h : formB r u e m = true) : IsTok (textT r u e m) (r, u, e, m) := by
  unfold textT
  rw [if_pos h]
  exact ⟨h, rfl⟩
theorem out_tok {t : List UInt8} {ok : Bool} {p q : Int × Int × Int × Int} (h : OutTok t ok p) (hq : IsTok t q) : ok = true ∧ p = q := by
  rcases h with ⟨rfl, h⟩ | ⟨rfl, rfl, h⟩
  · exact ⟨rfl, h.one hq⟩
  · exact absurd hq (h q)
theorem code_0 {k t r u e : Int} (hF : formB r u e (macL k (ptL t r u e)) = true) (hT : tenB t = true) : codeT k t r u e (macL k (ptL t r u e)) u e = 0 := by
  unfold codeT; rw [hF, hT]; simp
theorem code_2 {k t r u e : Int} (hF : formB r u e (macL k (ptL t r u e)) = true) (hT : tenB t = true) : codeT k t r u e (macL k (ptL t r u e)) (u + 1) e = 2 := by
  have : u < u + 1 := by omega
  unfold codeT; rw [hF, hT]; simp [this]
theorem code_3 {k t r u e : Int} (hF : formB r u e (macL k (ptL t r u e)) = true) (hT : tenB t = true) : codeT k t r u e (macL k (ptL t r u e)) 0 (e + 1) = 3 := by
  have : ¬ e = e + 1 := by omega
  unfold codeT; rw [hF, hT]; simp [this]

set_option maxHeartbeats 4000000 in
set_option maxRecDepth 20000 in
theorem lawSeal (a : Option Addr) (len cap : Nat) (a' : Option Addr) (len' cap' : Nat) (w : World) (h : Bytes w a len cap) (h' : Bytes w a' len' cap') (hE : Env w) :
    Calls Tryz.prog 3 #[.slice a len cap, .slice a' len' cap'] w fun x w' => x = .returned (.bool true) ∧ Below w.heap.size w w' := by
  by_cases hbig : 1048576 < len
  · clear h h'
    go_enter Tryz.func3, Tryz.ntmps3
    go_wp2_with fail
    go_ret
    exact ⟨rfl, Below.refl _ _⟩
  by_cases hbig' : 1048576 < len'
  · clear h h'
    go_enter Tryz.func3, Tryz.ntmps3
    go_wp2_with fail
    go_ret
    exact ⟨rfl, Below.refl _ _⟩
  have HBy := hide h
  have HBy' := hide h'
  have HE := hide hE
  clear h h' hE
  go_enter Tryz.func3, Tryz.ntmps3
  go_wp2_with fail
  refine (drawMake a len cap w (unhide HBy)).mono ?_
  rintro x w1 ⟨k, t, r, u, e, rfl, ⟨ht, hr, hu, he⟩, hb1⟩
  have it : i64 t := by unfold i64; omega
  have ir : i64 r := by unfold i64; omega
  have HI := hide (And.intro it (And.intro ir (And.intro hu.t.i he.t.i)))
  have hub : -1000000 ≤ u ∧ u ≤ 1000000007 := hu
  have heb : -1000000 ≤ e ∧ e ≤ 1000000007 := he
  obtain ⟨u0, u1⟩ := hub
  obtain ⟨e0, e1⟩ := heb
  have HB1 := hide hb1
  clear hb1 ht hr hu he it ir HBy
  go_wp2_with fail
  refine (makeI k t r u e _ (unhide HI).1 (unhide HI).2.1 (unhide HI).2.2.1 (unhide HI).2.2.2 ((unhide HE).kept (unhide HB1)).1).mono ?_
  rintro x w2 ⟨rfl, hb2⟩
  have HM := hide (fun W => makeS k t r u e W (unhide HI).1 (unhide HI).2.1 (unhide HI).2.2.1 (unhide HI).2.2.2)
  have H2 := hide (make_two k t r u e)
  generalize makeT k t r u e = P at *
  obtain ⟨r', u', e', m'⟩ := P
  have HM' : Hid (∀ W, Calls Tryz.prog 6 #[.int .i64 k, .int .i64 t, .int .i64 r, .int .i64 u, .int .i64 e] W fun x w' => x = .returned (tokV r' u' e' m') ∧ Below W.heap.size W w') := HM
  have HA2 := hide (At.new w2 #[.int .i64 r', .int .i64 u', .int .i64 e', .int .i64 m'] 26)
  have HB2 := hide (below_trans (below_trans (unhide HB1) hb2) (below_alloc w2 (.cells #[.int .i64 r', .int .i64 u', .int .i64 e', .int .i64 m'] 26)))
  have hz2 : (w2.alloc (.cells #[.int .i64 r', .int .i64 u', .int .i64 e', .int .i64 m'] 26)).heap.size = w2.heap.size + 1 := by simp
  clear hb2 HM HB1
  go_wp2_with fail
  generalize w2.alloc (.cells #[.int .i64 r', .int .i64 u', .int .i64 e', .int .i64 m'] 26) = W2 at *
  obtain ⟨⟨c0, c1, c2, c3⟩, _⟩ := at4 (unhide HA2)
  go_region_held3 (fun w2' => w2'.cell? ⟨w2.heap.size, 0, none⟩ = some (.int .i64 r') ∧ w2'.cell? ⟨w2.heap.size, 1, none⟩ = some (.int .i64 u') ∧ w2'.cell? ⟨w2.heap.size, 2, none⟩ = some (.int .i64 e') ∧ w2'.cell? ⟨w2.heap.size, 3, none⟩ = some (.int .i64 m')) (go_keep)
    ((go_at_call 6; refine (unhide HM' _).mono ?_; rintro x w3 ⟨rfl, hb3⟩; have hB3 : Below W2.heap.size W2 w3 := ⟨hb3.os, hb3.tape, hb3.output, hb3.size, hb3.block⟩; clear hb3; obtain ⟨⟨d0, d1, d2, d3⟩, _⟩ := at4 ((unhide HA2).below hB3 (by omega))))
  have HA3 := hide ((unhide HA2).below hB3 (by omega))
  have HB3 := hide (below_trans (unhide HB2) hB3)
  have hz3 := hB3.size
  clear hB3 HA2 HB2 HM' c0 c1 c2 c3 d0 d1 d2 d3
  go_wp2_with fail
  refine (drawReadT a' len' cap' _ ((unhide HBy').kept (unhide HB3))).mono ?_
  rintro x w4 ⟨s, rfl, hs, hb4⟩
  have HA4 := hide ((unhide HA3).below hb4 (by omega))
  have HB4 := hide (below_trans (unhide HB3) hb4)
  have hz4 := hb4.size
  have hs' : s.size ≤ 1100000 := by omega
  clear hb4 HA3 HB3 HBy'
  go_wp2_with fail
  refine (readTI s _ hs' ((unhide HE).kept (unhide HB4))).mono ?_
  rintro x w5 ⟨ok, ⟨r1, u1', e1', m1⟩, rfl, hO, hb5⟩
  have BX := below_alloc w5 (.cells #[.int .i64 r1, .int .i64 u1', .int .i64 e1', .int .i64 m1] 26)
  have hz5 := hb5.size
  have hz5' : (w5.alloc (.cells #[.int .i64 r1, .int .i64 u1', .int .i64 e1', .int .i64 m1] 26)).heap.size = w5.heap.size + 1 := by simp
  have HA5 := hide (((unhide HA4).below hb5 (by omega)).below BX (by omega))
  have HX5 := hide (At.new w5 #[.int .i64 r1, .int .i64 u1', .int .i64 e1', .int .i64 m1] 26)
  have HB5 := hide (below_trans (below_trans (unhide HB4) hb5) BX)
  have HO := hide hO
  clear hb5 BX HA4 HB4 hO
  go_wp2_with fail
  generalize w5.alloc (.cells #[.int .i64 r1, .int .i64 u1', .int .i64 e1', .int .i64 m1] 26) = W5 at *
  refine (readTS s _ hs').mono ?_
  rintro x w6 ⟨ok2, p2, rfl, hO2, hb6⟩
  obtain ⟨hok, hpp⟩ := (unhide HO).one hO2
  subst hok hpp
  have BY := below_alloc w6 (.cells #[.int .i64 r1, .int .i64 u1', .int .i64 e1', .int .i64 m1] 26)
  have hz6 := hb6.size
  have hz6' : (w6.alloc (.cells #[.int .i64 r1, .int .i64 u1', .int .i64 e1', .int .i64 m1] 26)).heap.size = w6.heap.size + 1 := by simp
  have HA6 := hide (((unhide HA5).below hb6 (by omega)).below BY (by omega))
  have HX6 := hide (((unhide HX5).below hb6 (by omega)).below BY (by omega))
  have HB6 := hide (below_trans (below_trans (unhide HB5) hb6) BY)
  have hbb : (ok != ok) = false := by simp
  clear hb6 BY HA5 HX5 HB5 hO2
  obtain ⟨⟨x0, x1, x2, x3⟩, _⟩ := at4 (unhide HX6)
  cases ok with
  | false =>
    rcases unhide H2 with hP | ⟨hP, hF, hTn, hr1⟩
    · simp only [Prod.mk.injEq] at hP
      obtain ⟨rfl, rfl, rfl, rfl⟩ := hP
      have hX : bytesOf (textT 0 0 0 0) = ByteArray.empty := by rw [text_zero]; rfl
      have hemp : ByteArray.empty.toList.isEmpty = true := by rw [Lib.toList_data]; rfl
      obtain ⟨⟨c0, c1, c2, c3⟩, _⟩ := at4 (unhide HA6)
      have HX := hide hX
      clear hX
      go_wp2_with fail
      refine (textI 0 0 0 0 _ ((unhide HE).kept (unhide HB6)).1).mono ?_
      rintro x w8 ⟨rfl, hb8⟩
      rw [unhide HX]
      clear c0 c1 c2 c3
      go_wp2_with fail
      go_ret
      exact ⟨rfl, below_trans (unhide HB6) hb8⟩
    · simp only [Prod.mk.injEq] at hP
      obtain ⟨rfl, rfl, rfl, hM⟩ := hP
      have HC0 := hide (code_0 hF hTn)
      have HC2 := hide (code_2 hF hTn)
      have HC3 := hide (code_3 hF hTn)
      rw [← hM] at HC0 HC2 HC3 hF
      have HIS := hide (is_tok hF)
      have HL := hide (show (textT r' u' e' m').length ≤ 87 from by
        unfold textT
        rw [if_pos hF]
        obtain ⟨q1, q2, q3, q4⟩ := form_i64 hF
        exact pt_len q1 q2 q3 q4)
      have hr0 : (r' == 0) = false := beq_eq_false_iff_ne.2 (by omega)
      clear hM hF hTn hr1
      obtain ⟨⟨c0, c1, c2, c3⟩, _⟩ := at4 (unhide HA6)
      go_wp2_with fail
      refine (textI r' u' e' m' _ ((unhide HE).kept (unhide HB6)).1).mono ?_
      rintro x w8 ⟨rfl, hb8⟩
      have HA8 := hide ((unhide HA6).below hb8 (by omega))
      have HB8 := hide (below_trans (unhide HB6) hb8)
      have hz8 := hb8.size
      clear hb8 c0 c1 c2 c3
      go_wp2_with fail
      refine (readTI (bytesOf (textT r' u' e' m')) _ (by show (textT r' u' e' m').toArray.size ≤ _; rw [List.size_toArray]; have := unhide HL; omega) ((unhide HE).kept (unhide HB8))).mono ?_
      rintro x w9 ⟨ok9, p9, rfl, hO9, hb9⟩
      rw [by_list] at hO9
      obtain ⟨hok9, hp9⟩ := out_tok hO9 (unhide HIS)
      subst hok9 hp9
      have BW := below_alloc w9 (.cells #[.int .i64 r', .int .i64 u', .int .i64 e', .int .i64 m'] 26)
      have hz9 := hb9.size
      have hz9' : (w9.alloc (.cells #[.int .i64 r', .int .i64 u', .int .i64 e', .int .i64 m'] 26)).heap.size = w9.heap.size + 1 := by simp
      have HA9 := hide (((unhide HA8).below hb9 (by omega)).below BW (by omega))
      have HX9 := hide (At.new w9 #[.int .i64 r', .int .i64 u', .int .i64 e', .int .i64 m'] 26)
      have HB9 := hide (below_trans (below_trans (unhide HB8) hb9) BW)
      have HCH := hide (fun (n ep : Int) (W : World) hW => checkI k t r' u' e' m' n ep W (unhide HI).1 (unhide HI).2.1 (unhide HI).2.2.1 (unhide HI).2.2.2 hW)
      obtain ⟨⟨c0, c1, c2, c3⟩, _⟩ := at4 (unhide HA9)
      obtain ⟨⟨x0, x1, x2, x3⟩, _⟩ := at4 (unhide HX9)
      clear hb9 BW hO9 HA8 HB8
      go_wp2_with fail
      refine (unhide HCH u' e' _ ((unhide HE).kept (unhide HB9)).1).mono ?_
      rintro x w10 ⟨rfl, hb10⟩
      rw [unhide HC0]
      have HA10 := hide ((unhide HA9).below hb10 (by omega))
      have HB10 := hide (below_trans (unhide HB9) hb10)
      have hz10 := hb10.size
      clear hb10 c0 c1 c2 c3 x0 x1 x2 x3
      obtain ⟨⟨c0, c1, c2, c3⟩, _⟩ := at4 (unhide HA10)
      go_wp2_with fail
      refine (unhide HCH (u' + 1) e' _ ((unhide HE).kept (unhide HB10)).1).mono ?_
      rintro x w11 ⟨rfl, hb11⟩
      rw [unhide HC2]
      have HA11 := hide ((unhide HA10).below hb11 (by omega))
      have HB11 := hide (below_trans (unhide HB10) hb11)
      clear hb11 c0 c1 c2 c3
      obtain ⟨⟨c0, c1, c2, c3⟩, _⟩ := at4 (unhide HA11)
      go_wp2_with fail
      refine (unhide HCH 0 (e' + 1) _ ((unhide HE).kept (unhide HB11)).1).mono ?_
      rintro x w12 ⟨rfl, hb12⟩
      rw [unhide HC3]
      clear c0 c1 c2 c3
      go_wp2_with fail
      go_ret
      exact ⟨rfl, below_trans (unhide HB11) hb12⟩
  | true =>
    have hst : bytesOf (textT r1 u1' e1' m1) = s := by
      rcases unhide HO with ⟨_, hi⟩ | ⟨h0, _⟩
      · unfold textT
        rw [if_pos hi.1]
        apply ByteArray.ext; apply Array.toList_inj.1
        rw [by_list]; exact hi.2
      · cases h0
    have HST := hide hst
    clear hst
    go_wp2_with fail
    refine (textI r1 u1' e1' m1 _ ((unhide HE).kept (unhide HB6)).1).mono ?_
    rintro x w7 ⟨rfl, hb7⟩
    rw [unhide HST]
    have HA7 := hide ((unhide HA6).below hb7 (by omega))
    have HB7 := hide (below_trans (unhide HB6) hb7)
    have hz7 := hb7.size
    clear hb7 x0 x1 x2 x3 HST
    rcases unhide H2 with hP | ⟨hP, hF, hTn, hr1⟩
    · simp only [Prod.mk.injEq] at hP
      obtain ⟨rfl, rfl, rfl, rfl⟩ := hP
      have hX : bytesOf (textT 0 0 0 0) = ByteArray.empty := by rw [text_zero]; rfl
      have hemp : ByteArray.empty.toList.isEmpty = true := by rw [Lib.toList_data]; rfl
      obtain ⟨⟨c0, c1, c2, c3⟩, _⟩ := at4 (unhide HA7)
      have HX := hide hX
      clear hX
      go_wp2_with fail
      refine (textI 0 0 0 0 _ ((unhide HE).kept (unhide HB7)).1).mono ?_
      rintro x w8 ⟨rfl, hb8⟩
      rw [unhide HX]
      clear c0 c1 c2 c3
      go_wp2_with fail
      go_ret
      exact ⟨rfl, below_trans (unhide HB7) hb8⟩
    · simp only [Prod.mk.injEq] at hP
      obtain ⟨rfl, rfl, rfl, hM⟩ := hP
      have HC0 := hide (code_0 hF hTn)
      have HC2 := hide (code_2 hF hTn)
      have HC3 := hide (code_3 hF hTn)
      rw [← hM] at HC0 HC2 HC3 hF
      have HIS := hide (is_tok hF)
      have HL := hide (show (textT r' u' e' m').length ≤ 87 from by
        unfold textT
        rw [if_pos hF]
        obtain ⟨q1, q2, q3, q4⟩ := form_i64 hF
        exact pt_len q1 q2 q3 q4)
      have hr0 : (r' == 0) = false := beq_eq_false_iff_ne.2 (by omega)
      clear hM hF hTn hr1
      obtain ⟨⟨c0, c1, c2, c3⟩, _⟩ := at4 (unhide HA7)
      go_wp2_with fail
      refine (textI r' u' e' m' _ ((unhide HE).kept (unhide HB7)).1).mono ?_
      rintro x w8 ⟨rfl, hb8⟩
      have HA8 := hide ((unhide HA7).below hb8 (by omega))
      have HB8 := hide (below_trans (unhide HB7) hb8)
      have hz8 := hb8.size
      clear hb8 c0 c1 c2 c3
      go_wp2_with fail
      refine (readTI (bytesOf (textT r' u' e' m')) _ (by show (textT r' u' e' m').toArray.size ≤ _; rw [List.size_toArray]; have := unhide HL; omega) ((unhide HE).kept (unhide HB8))).mono ?_
      rintro x w9 ⟨ok9, p9, rfl, hO9, hb9⟩
      rw [by_list] at hO9
      obtain ⟨hok9, hp9⟩ := out_tok hO9 (unhide HIS)
      subst hok9 hp9
      have BW := below_alloc w9 (.cells #[.int .i64 r', .int .i64 u', .int .i64 e', .int .i64 m'] 26)
      have hz9 := hb9.size
      have hz9' : (w9.alloc (.cells #[.int .i64 r', .int .i64 u', .int .i64 e', .int .i64 m'] 26)).heap.size = w9.heap.size + 1 := by simp
      have HA9 := hide (((unhide HA8).below hb9 (by omega)).below BW (by omega))
      have HX9 := hide (At.new w9 #[.int .i64 r', .int .i64 u', .int .i64 e', .int .i64 m'] 26)
      have HB9 := hide (below_trans (below_trans (unhide HB8) hb9) BW)
      have HCH := hide (fun (n ep : Int) (W : World) hW => checkI k t r' u' e' m' n ep W (unhide HI).1 (unhide HI).2.1 (unhide HI).2.2.1 (unhide HI).2.2.2 hW)
      obtain ⟨⟨c0, c1, c2, c3⟩, _⟩ := at4 (unhide HA9)
      obtain ⟨⟨x0, x1, x2, x3⟩, _⟩ := at4 (unhide HX9)
      clear hb9 BW hO9 HA8 HB8
      go_wp2_with fail
      refine (unhide HCH u' e' _ ((unhide HE).kept (unhide HB9)).1).mono ?_
      rintro x w10 ⟨rfl, hb10⟩
      rw [unhide HC0]
      have HA10 := hide ((unhide HA9).below hb10 (by omega))
      have HB10 := hide (below_trans (unhide HB9) hb10)
      have hz10 := hb10.size
      clear hb10 c0 c1 c2 c3 x0 x1 x2 x3
      obtain ⟨⟨c0, c1, c2, c3⟩, _⟩ := at4 (unhide HA10)
      go_wp2_with fail
      refine (unhide HCH (u' + 1) e' _ ((unhide HE).kept (unhide HB10)).1).mono ?_
      rintro x w11 ⟨rfl, hb11⟩
      rw [unhide HC2]
      have HA11 := hide ((unhide HA10).below hb11 (by omega))
      have HB11 := hide (below_trans (unhide HB10) hb11)
      clear hb11 c0 c1 c2 c3
      obtain ⟨⟨c0, c1, c2, c3⟩, _⟩ := at4 (unhide HA11)
      go_wp2_with fail
      refine (unhide HCH 0 (e' + 1) _ ((unhide HE).kept (unhide HB11)).1).mono ?_
      rintro x w12 ⟨rfl, hb12⟩
      rw [unhide HC3]
      clear c0 c1 c2 c3
      go_wp2_with fail
      go_ret
      exact ⟨rfl, below_trans (unhide HB11) hb12⟩
end Go.Proofs.YtlmdpfhabiakmaaGreatDoor.Tok
