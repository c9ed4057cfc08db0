/-
  spec.SealRead; the law on it.
-/
import Derived.Test.YtlmdpfhabiakmaaGreatDoorTokRd
import Derived.Test.YtlmdpfhabiakmaaGreatDoorNumC
import Derived.Test.YtlmdpfhabiakmaaGreatDoorIntR
import Derived.Lib.SmallJoins
namespace Go.Proofs.YtlmdpfhabiakmaaGreatDoor.Tok
set_option linter.unusedVariables false
open Go.RowKit
open Num (bytesOf numL numV numC)
open Strs hiding hide unhide below_trans
open Mac (hide unhide below_trans)
open Boxes (At box1 box2)
open Cut (cutL cutC cutL_length)
open IntR (Own)

theorem cutL_le (c : UInt8) : ∀ (l : List UInt8), ∀ x ∈ cutL c l, x.length ≤ l.length := by
  have key : ∀ (l cur : List UInt8), ∀ x ∈ Cut.cutF c cur l, x.length ≤ cur.length + l.length := by
    intro l
    induction l with
    | nil => intro cur x hx; obtain rfl := List.mem_singleton.1 hx; simp
    | cons b l ih =>
      intro cur x hx
      rw [Cut.cutF] at hx
      split at hx
      · rcases List.mem_cons.1 hx with rfl | h
        · simp
        · have := ih [] x h; simp at this ⊢; omega
      · have := ih _ x hx
        simp at this ⊢; omega
  intro l x hx
  have := key l [] x hx
  simpa using this
theorem SO_some {W : World} {B n c : Nat} {a : Option Addr} {ws : List (List UInt8)} (h : SO W B (.slice a n c) ws) (hn : n ≠ 0) : ∃ g, a = some ⟨g, 0, none⟩ := by
  obtain ⟨h1, h2⟩ := h
  rcases h2 with ⟨h3, _⟩ | ⟨g', cap', cur, h3, _⟩
  · simp only [Value.slice.injEq] at h3; exact absurd h3.2.1 hn
  · simp only [Value.slice.injEq] at h3; exact ⟨g', h3.1⟩
/-- the numbers are a token's, if the text is one's -/
theorem numsS_tok {s : ByteArray} {N : List Int} {xs : List (List UInt8)} (hx : xs = cutL 46 s.data.toList) (h : N = (xs.take 4).map fun x => (numL x).getD 0) :
    ∀ q, IsTok s.data.toList q → ((N.getD 0 0, N.getD 1 0, N.getD 2 0, N.getD 3 0) : Int × Int × Int × Int) = q := by
  intro q hq
  have e := hq.cut
  rw [← hx] at e
  subst e
  obtain ⟨k1, k2, k3, k4⟩ := hq.num
  rw [h]
  simp [wordsP, Num.numL_itoa k1, Num.numL_itoa k2, Num.numL_itoa k3, Num.numL_itoa k4]

set_option maxHeartbeats 1000000 in
set_option maxRecDepth 20000 in
theorem readTS (s : ByteArray) (w : World) (hs : s.size ≤ 1100000) :
    Calls Tryz.prog 9 #[.string s] w fun x w' => ∃ ok p, x = .returned (.tuple #[tokP p, .bool ok]) ∧ OutTok s.data.toList ok p ∧ Below w.heap.size w w' := by
  have hlen : s.data.toList.length = s.size := Array.length_toList
  have HT := hide (fun q (hq : IsTok s.data.toList q) => And.intro hq.len hq.cut)
  have HL := hide hlen
  have HCL := hide (cutL_length 46 s.data.toList)
  have HLE := hide (cutL_le 46 s.data.toList)
  clear hlen
  go_enter Tryz.func9, Tryz.ntmps9
  go_wp2_with fail
  refine (cutC s 46 46 rfl _ hs).mono ?_
  rintro x w1 ⟨v, rfl, hS, hb⟩
  obtain ⟨A0, hB, hz1⟩ := box1 hb
  generalize hxs : cutL 46 s.data.toList = xs at *
  have HX := hide hxs.symm
  obtain ⟨va, vc, rfl⟩ := hS.form
  have HB := hide hB
  have HS := hide hS
  obtain ⟨⟨z0, z1, z2, z3⟩, f0, f1, f2, f3⟩ := at4 A0
  have HA := hide A0
  have hx := unhide HCL
  rw [unhide HL] at hx
  clear hb hS hxs A0 hB
  by_cases hbig : (60 : Int) < (s.size : Int)
  · have HO : Hid (OutTok s.data.toList false (0, 0, 0, 0)) := hide (tok_none fun q hq => by have := (unhide HT q hq).1.2; rw [unhide HL] at this; omega)
    go_wp2_with fail
    exact bodyPost_ret (v := .tuple #[tokV 0 0 0 0, .bool false]) (by simp [results, Tryz.results9, go_sem, z0, z1, z2, z3]) rfl ⟨false, (0, 0, 0, 0), rfl, unhide HO, set4 (unhide HB) (Nat.le_refl _) _ _ _ _⟩
  by_cases h4 : xs.length = 4
  · clear z0 z1 z2 z3 f0 f1 f2 f3
    obtain ⟨g0, rfl⟩ := SO_some (unhide HS) (by omega)
    rw [h4]
    have HX4 := hide h4
    have HO0 := hide (IntR.Own.new w1 (w.heap.size + 1) hz1)
    clear h4
    go_wp2_with fail
    go_loopw [5, 6] (fun t5 t6 wr => ∃ (j g c : Nat), j ≤ 4 ∧ t6 = .int .i64 j ∧ t5 = .slice (some ⟨g, 0, none⟩) j c ∧ Hid (Own wr w1.heap.size g c ((xs.take j).map fun x => (numL x).getD 0)) ∧ Hid (Below w1.heap.size w1 wr)) (fun _ t6 _ => 4 - (intOf t6).toNat)
    case atStart => exact ⟨0, w1.heap.size, 0, by omega, rfl, rfl, hide (IntR.Own.new w1 _ (Nat.le_refl _)), hide (below_alloc _ _)⟩
    case round =>
      obtain ⟨j, g, c, hj, rfl, rfl, hO, hB1⟩ := hrel
      by_cases hlt : j < 4
      · have hjl : j < xs.length := by rw [unhide HX4]; exact hlt
        have hmem : xs.getD j [] ∈ xs := by simp [List.getD, hjl]
        have d0 := ((unhide HS).kept (unhide hB1)).cells j (xs.getD j []) (by simp [List.getD, hjl])
        have HLn : Hid ((xs.getD j []).length ≤ 1100000) := hide (by have := unhide HLE _ hmem; rw [unhide HL] at this; omega)
        have HTE : Hid (((xs.take (j + 1)).map fun x => (numL x).getD 0) = ((xs.take j).map fun x => (numL x).getD 0) ++ [(numL (xs.getD j [])).getD 0]) := hide (by
          rw [List.take_add_one, List.getElem?_eq_getElem hjl, List.map_append]; simp [List.getD, hjl])
        have HLT : Hid (((xs.take j).map fun x => (numL x).getD 0).length = j) := hide (by simp; omega)
        clear hmem
        generalize xs.getD j [] = x at *
        generalize ((xs.take j).map fun x => (numL x).getD 0) = L at *
        have i0 : (0 : Int) ≤ (j : Int) := by omega
        have i1 : (j : Int) < 4 := by omega
        go_wp2_with fail
        refine (numC (bytesOf x) _ (by have := unhide HLn; show x.toArray.size ≤ _; simp; omega)).mono ?_
        rintro e w2 ⟨rfl, hb2⟩
        rw [by_list]
        unfold numV
        generalize hn : (numL x).getD 0 = n at *
        generalize (numL x).isSome = bb
        have HN : Hid ((w2.alloc (.cells #[.int .i64 n] 3)).heap[w2.heap.size]? = some (.cells #[.int .i64 n] 3 (0, 0))) := hide (MapKept.heap_alloc _ _).1
        have HO2 := hide (((unhide hO).below hb2).below (below_alloc w2 (.cells #[.int .i64 n] 3)))
        have HB2 := hide (below_trans (below_trans (unhide hB1) hb2) (below_alloc w2 (.cells #[.int .i64 n] 3)))
        have hz2 := (unhide HB2).size
        have hg2 := (unhide HO2).lt
        clear hb2 hn d0
        go_wp2_with (first | (at_builtin; refine IntR.listApp _ rfl _ _ rfl w1.heap.size g c w2.heap.size j L n (unhide HLT) rfl (unhide HO2) rfl (unhide HN) (by rw [unhide HLT]; omega) hz2 ?_; intro g' c' w' h1 h2 h3 h4; have S6 := hide h1; have B6 := hide (below_grown (unhide HB2) h2 (Nat.le_refl _) (fun q hq => by cases hq; exact hg2.1)); clear h1 h2 h3 h4) | fail)
        exact ⟨⟨j + 1, g', c', by omega, by go_num, rfl, by rw [unhide HTE]; exact S6, B6⟩, by simp [intOf]; omega⟩
      · obtain rfl : j = 4 := by omega
        have hLl : ((xs.take 4).map fun x => (numL x).getD 0).length = 4 := by simp [unhide HX4]
        have HTk := hide (numsS_tok (unhide HX) rfl)
        have c0 := (unhide hO).cell 0 (by omega)
        have c1 := (unhide hO).cell 1 (by omega)
        have c2 := (unhide hO).cell 2 (by omega)
        have c3 := (unhide hO).cell 3 (by omega)
        have hg := (unhide hO).lt
        generalize ((xs.take 4).map fun x => (numL x).getD 0) = L at *
        generalize L.getD 0 0 = n0 at *
        generalize L.getD 1 0 = n1 at *
        generalize L.getD 2 0 = n2 at *
        generalize L.getD 3 0 = n3 at *
        clear hO hLl
        have HNN : Hid (s.data.toList ≠ []) := hide (fun e => by
          have h1 := unhide HX
          rw [e] at h1
          have h2 := unhide HX4
          rw [h1] at h2
          exact absurd h2 (by decide))
        have HA1 := hide ((unhide HA).below (unhide hB1) (by omega))
        have HB1 := hide (below_trans (unhide HB) (unhide hB1))
        have hz3 := (unhide HB1).size
        go_wp2_with fail
        go_region_held3 (fun w2 => w2.cell? ⟨g, 0, none⟩ = some (.int .i64 n0) ∧ w2.cell? ⟨g, 1, none⟩ = some (.int .i64 n1) ∧ w2.cell? ⟨g, 2, none⟩ = some (.int .i64 n2) ∧ w2.cell? ⟨g, 3, none⟩ = some (.int .i64 n3)) (go_keep) (fail)
        have BA : Below wr.heap.size wr (wr.alloc (.cells #[.int .i64 n0, .int .i64 n1, .int .i64 n2, .int .i64 n3] 26)).drew := by
          have := below_alloc wr (.cells #[.int .i64 n0, .int .i64 n1, .int .i64 n2, .int .i64 n3] 26)
          exact ⟨this.os, this.tape, this.output, this.size, this.block⟩
        have HA2 := hide ((unhide HA1).below BA (by omega))
        have HAn := hide ((At.new wr #[.int .i64 n0, .int .i64 n1, .int .i64 n2, .int .i64 n3] 26).kept (W' := (wr.alloc (.cells #[.int .i64 n0, .int .i64 n1, .int .i64 n2, .int .i64 n3] 26)).drew) rfl)
        have HB2 := hide (below_trans (unhide HB1) BA)
        have hzn : (wr.alloc (.cells #[.int .i64 n0, .int .i64 n1, .int .i64 n2, .int .i64 n3] 26)).drew.heap.size = wr.heap.size + 1 := by
          show (wr.alloc (.cells #[.int .i64 n0, .int .i64 n1, .int .i64 n2, .int .i64 n3] 26)).heap.size = _
          simp
        have HZN := hide hzn
        clear BA hzn
        obtain ⟨⟨y0, y1, y2, y3⟩, _⟩ := at4 (unhide HAn)
        go_wp2_with fail
        refine (textS n0 n1 n2 n3 _).mono ?_
        rintro x w3 ⟨rfl, hb3⟩
        have hA3 := (unhide HA2).below hb3 (by rw [unhide HZN]; omega)
        have hAn3 := (unhide HAn).below hb3 (by rw [unhide HZN]; omega)
        have HB3 := hide (below_trans (unhide HB2) hb3)
        clear y0 y1 y2 y3 c0 c1 c2 c3
        obtain ⟨⟨z0, z1, z2, z3⟩, f0, f1, f2, f3⟩ := at4 hA3
        obtain ⟨⟨y0, y1, y2, y3⟩, _⟩ := at4 hAn3
        by_cases hT : textT n0 n1 n2 n3 = s.data.toList
        · have hTs : bytesOf (textT n0 n1 n2 n3) = s := by
            apply ByteArray.ext; apply Array.toList_inj.1; rw [by_list]; exact hT
          have HO := hide (tok_of (N := (n0, n1, n2, n3)) (unhide HTk) hT (unhide HNN))
          have hE : s.toList.isEmpty = false := by
            rw [Lib.toList_data]
            have := unhide HNN
            cases h : s.data.toList with
            | nil => exact absurd h this
            | cons _ _ => rfl
          rw [hTs]
          clear hT hTs hA3 hAn3 hb3
          go_wp2_with fail
          exact bodyPost_ret (v := .tuple #[tokV n0 n1 n2 n3, .bool true]) (by simp [results, Tryz.results9, go_sem, z0, z1, z2, z3]) rfl ⟨true, (n0, n1, n2, n3), rfl, unhide HO, set4 (unhide HB3) (Nat.le_refl _) _ _ _ _⟩
        · have HO := hide (tok_no (N := (n0, n1, n2, n3)) (unhide HTk) hT)
          have hTs : bytesOf (textT n0 n1 n2 n3) ≠ s := fun e => hT (by rw [← e, by_list])
          clear hT
          generalize bytesOf (textT n0 n1 n2 n3) = X at *
          have hT2 : (X.toList == s.toList) = false := beq_eq_false_iff_ne.2 fun e => hTs (by
            rw [Lib.toList_data, Lib.toList_data] at e
            apply ByteArray.ext; exact Array.toList_inj.1 e)
          clear hTs hA3 hAn3 hb3
          go_wp2_with fail
          exact bodyPost_ret (v := .tuple #[tokV 0 0 0 0, .bool false]) (by simp [results, Tryz.results9, go_sem, z0, z1, z2, z3]) rfl ⟨false, (0, 0, 0, 0), rfl, unhide HO, set4 (unhide HB3) (Nat.le_refl _) _ _ _ _⟩
  · have HO : Hid (OutTok s.data.toList false (0, 0, 0, 0)) := hide (tok_none fun q hq => h4 (by have := congrArg List.length (unhide HT q hq).2; simpa [wordsP] using this))
    have hn5 : ((xs.length : Int) != 4) = true := by simp; omega
    go_wp2_with fail
    exact bodyPost_ret (v := .tuple #[tokV 0 0 0 0, .bool false]) (by simp [results, Tryz.results9, go_sem, z0, z1, z2, z3]) rfl ⟨false, (0, 0, 0, 0), rfl, unhide HO, set4 (unhide HB) (Nat.le_refl _) _ _ _ _⟩
end Go.Proofs.YtlmdpfhabiakmaaGreatDoor.Tok
