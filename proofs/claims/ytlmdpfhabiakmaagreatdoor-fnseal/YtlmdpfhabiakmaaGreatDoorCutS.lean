/-
  spec.l18Cut: a text cut at each byte of one kind.
-/
import Derived.Test.YtlmdpfhabiakmaaGreatDoorStrs
namespace Go.Proofs.YtlmdpfhabiakmaaGreatDoor.Cut
set_option linter.unusedVariables false
open Go.RowKit
open Num (bytesOf)
open Strs

/-- what of the text is left, cur being the word under way -/
def cutF (c : UInt8) : List UInt8 → List UInt8 → List (List UInt8)
  | cur, [] => [cur]
  | cur, b :: l => if b = c then cur :: cutF c [] l else cutF c (cur ++ [b]) l
def cutL (c : UInt8) (l : List UInt8) : List (List UInt8) := cutF c [] l

theorem cutF_word (c : UInt8) : ∀ (w cur : List UInt8) (r : List UInt8), (∀ b ∈ w, b ≠ c) → cutF c cur (w ++ r) = cutF c (cur ++ w) r
  | [], cur, r, _ => by simp
  | b :: w, cur, r, h => by
    have hb : b ≠ c := h b (List.mem_cons_self ..)
    rw [List.cons_append, cutF, if_neg hb, cutF_word c w _ r fun x hx => h x (List.mem_cons_of_mem _ hx)]
    simp
theorem cutL_end (c : UInt8) {w : List UInt8} (h : ∀ b ∈ w, b ≠ c) : cutL c w = [w] := by
  have := cutF_word c w [] [] h
  rw [List.append_nil] at this
  unfold cutL; rw [this]; simp [cutF]
theorem cutL_cons (c : UInt8) {w r : List UInt8} (h : ∀ b ∈ w, b ≠ c) : cutL c (w ++ c :: r) = w :: cutL c r := by
  unfold cutL
  rw [cutF_word c w [] _ h, cutF, if_pos rfl, List.nil_append]
theorem cutF_length (c : UInt8) : ∀ (l cur : List UInt8), (cutF c cur l).length ≤ l.length + 1
  | [], cur => by simp [cutF]
  | b :: l, cur => by
    rw [cutF]
    split
    · have := cutF_length c l []
      simp; omega
    · have := cutF_length c l (cur ++ [b])
      simp; omega
theorem cutL_length (c : UInt8) (l : List UInt8) : (cutL c l).length ≤ l.length + 1 := cutF_length c l []

theorem by_at {y : ByteArray} {k : Nat} (h : k < y.size) : y.data.toList[k]? = some y[k] := by
  have hl : y.data.toList.length = y.size := Array.length_toList
  rw [List.getElem?_eq_getElem (by omega)]; simp; rfl
/-- under way: the words that are cut, and what is still to come -/
def Way (c : UInt8) (l : List UInt8) (ws : List (List UInt8)) (f j : Nat) : Prop := ws ++ cutF c ((l.take j).drop f) (l.drop j) = cutL c l
theorem Way.start (c : UInt8) (l : List UInt8) : Way c l [] 0 0 := by unfold Way cutL; simp
theorem Way.skip {c : UInt8} {l : List UInt8} {ws : List (List UInt8)} {f j : Nat} {b : UInt8} (h : Way c l ws f j) (hb : l[j]? = some b) (hc : b ≠ c) (hf : f ≤ j) : Way c l ws f (j + 1) := by
  unfold Way at *
  rw [← h]
  have hlt := (List.getElem?_eq_some_iff.1 hb).1
  have e1 : l.drop j = b :: l.drop (j + 1) := by rw [List.drop_eq_getElem_cons hlt, (List.getElem?_eq_some_iff.1 hb).2]
  have e2 : (l.take (j + 1)).drop f = (l.take j).drop f ++ [b] := by
    rw [List.take_add_one, hb, List.drop_append_of_le_length (by simp; omega)]; rfl
  rw [e1, e2, cutF, if_neg hc]
theorem Way.cut {c : UInt8} {l : List UInt8} {ws : List (List UInt8)} {f j : Nat} (h : Way c l ws f j) (hb : l[j]? = some c) : Way c l (ws ++ [(l.take j).drop f]) (j + 1) (j + 1) := by
  unfold Way at *
  rw [← h]
  have hlt := (List.getElem?_eq_some_iff.1 hb).1
  have e1 : l.drop j = c :: l.drop (j + 1) := by rw [List.drop_eq_getElem_cons hlt, (List.getElem?_eq_some_iff.1 hb).2]
  have e2 : (l.take (j + 1)).drop (j + 1) = [] := by apply List.drop_eq_nil_of_le; simp; omega
  rw [e1, e2, cutF, if_pos rfl]; simp
theorem Way.stop {c : UInt8} {l : List UInt8} {ws : List (List UInt8)} {f j : Nat} (h : Way c l ws f j) (hj : l.length ≤ j) : ws ++ [(l.take j).drop f] = cutL c l := by
  unfold Way at h
  rw [← h, List.drop_eq_nil_of_le hj]; rfl
theorem ext_list (s : ByteArray) (f j : Nat) : (s.extract f j).data.toList = (s.data.toList.take j).drop f := by
  rw [ByteArray.data_extract, Array.toList_extract]
  simp [List.extract, List.drop_take]

theorem SO_made (w : World) (B : Nat) (hB : B ≤ w.heap.size) : SO (w.alloc (.cells #[] 9)) B (.slice (some ⟨w.heap.size, 0, none⟩) 0 0) [] := by
  have e1 := (MapKept.heap_alloc w (.cells #[] 9)).1
  refine ⟨by simp, .inr ⟨w.heap.size, 0, #[], rfl, hB, ?_, Nat.le_refl _, by unfold maxLen; omega, by simp, by simp⟩⟩
  rw [e1]

set_option maxHeartbeats 1000000 in
set_option maxRecDepth 20000 in
theorem cutC (s : ByteArray) (c : UInt8) (z : Int) (hz : z = (c.toNat : Int)) (w : World) (hs : s.size ≤ 1100000) :
    Calls Tryz.prog 26 #[.string s, .int .u8 z] w fun x w' => ∃ v, x = .returned v ∧ SO w' w.heap.size v (cutL c s.data.toList) ∧ Below w.heap.size w w' := by
  have hlen : s.data.toList.length = s.size := Array.length_toList
  have HL := hide hlen
  have W0 := hide (Way.start c s.data.toList)
  have HZ := hide hz
  clear hlen hz
  go_enter Tryz.func26, Tryz.ntmps26
  go_wp2_with fail
  go_loopw [5, 6, 7] (fun t5 t6 t7 wr => ∃ (j f : Nat) (ws : List (List UInt8)), t7 = .int .i64 j ∧ t6 = .int .i64 f ∧ j ≤ s.size + 1 ∧ f ≤ j ∧ ws.length ≤ j ∧ Hid ((j ≤ s.size → Way c s.data.toList ws f j) ∧ (s.size < j → ws = cutL c s.data.toList)) ∧ Hid (SO wr w.heap.size t5 ws) ∧ Hid (Below w.heap.size w wr)) (fun _ _ t7 _ => s.size + 2 - (intOf t7).toNat)
  case atStart => exact ⟨0, 0, [], rfl, rfl, by omega, by omega, by simp, hide ⟨fun _ => unhide W0, fun h => by omega⟩, hide (SO_made w _ (Nat.le_refl _)), hide (below_alloc _ _)⟩
  case round =>
    obtain ⟨j, f, ws, rfl, rfl, hj, hf, hwl, hW, hS, hB⟩ := hrel
    obtain ⟨va, vc, hv⟩ := (unhide hS).form
    subst hv
    by_cases h1 : j ≤ s.size
    · have hz1 := (unhide hB).size
      have HN1 := hide (newOne wr (s.extract f j).data.toList 9)
      have HS3 := hide ((unhide hS).kept (below_alloc wr (.cells #[.string (s.extract f j)] 9)))
      have HG : Hid (∀ w', (wr.alloc (.cells #[.string (s.extract f j)] 9)).grownBy w' (Value.slice va ws.length vc).ownBlock → Below w.heap.size w w') := hide (fun w' h2 => below_grown (below_trans (unhide hB) (below_alloc _ _)) h2 (Nat.le_refl _) (fun q hq => by have := (unhide HS3).blk q hq; omega))
      have i0 : (0 : Int) ≤ (f : Int) := by omega
      have i1 : (f : Int) ≤ (j : Int) := by omega
      have i2 : (j : Int) ≤ (s.size : Int) := by omega
      by_cases h2 : j = s.size
      · subst h2
        have HX : Hid (ws ++ [(s.extract f s.size).data.toList] = cutL c s.data.toList) := hide (by rw [ext_list]; exact ((unhide hW).1 (Nat.le_refl _)).stop (by rw [unhide HL]; omega))
        go_wp2_with (first | (at_builtin; refine listAppS _ rfl _ _ rfl w.heap.size wr.heap.size 1 1 ws.length (.slice va ws.length vc) ws [(s.extract f s.size).data.toList] rfl rfl rfl (unhide HS3) rfl (unhide HN1) (by simp) (by simp; omega) (by simp; omega) ?_; intro g cap w' h1 h2 h3; have S6 := hide h1; have B6 := hide (unhide HG w' h2); clear h1 h2 h3) | fail)
        exact ⟨⟨s.size + 1, s.size + 1, _, by go_num, by go_num, by omega, by omega, by simp; omega, hide ⟨fun h => by omega, fun _ => unhide HX⟩, S6, B6⟩, by simp [intOf]⟩
      · have hlt : j < s.size := by omega
        have hb := by_at hlt
        have h3 : (j : Int) < (s.size : Int) := by omega
        have hne : ¬ (j : Int) = (s.size : Int) := by omega
        by_cases hc : s[j] = c
        · have HX : Hid (Way c s.data.toList (ws ++ [(s.extract f j).data.toList]) (j + 1) (j + 1)) := hide (by rw [ext_list]; exact ((unhide hW).1 h1).cut (by rw [hb, hc]))
          have hcz : (s[j].toNat : Int) = z := by rw [unhide HZ, hc]
          have hcz' : ((s[j].toNat : Int) == z) = true := by simp [hcz]
          clear hb hcz hc
          go_wp2_with (first | (at_builtin; refine listAppS _ rfl _ _ rfl w.heap.size wr.heap.size 1 1 ws.length (.slice va ws.length vc) ws [(s.extract f j).data.toList] rfl rfl rfl (unhide HS3) rfl (unhide HN1) (by simp) (by simp; omega) (by simp; omega) ?_; intro g cap w' h1 h2 h3; have S6 := hide h1; have B6 := hide (unhide HG w' h2); clear h1 h2 h3) | fail)
          exact ⟨⟨j + 1, j + 1, _, by go_num, by go_num, by omega, by omega, by simp; omega, hide ⟨fun _ => unhide HX, fun h => by omega⟩, S6, B6⟩, by simp [intOf]; omega⟩
        · have HX : Hid (Way c s.data.toList ws f (j + 1)) := hide (((unhide hW).1 h1).skip hb hc hf)
          have hcz : ((s[j].toNat : Int) == z) = false := by
            rw [unhide HZ]
            simp only [beq_eq_false_iff_ne, ne_eq]
            intro e; apply hc; apply UInt8.toNat_inj.1; omega
          clear hb
          go_wp2_with fail
          exact ⟨⟨j + 1, f, ws, by go_num, rfl, by omega, by omega, by omega, hide ⟨fun _ => unhide HX, fun h => by omega⟩, hS, hB⟩, by simp [intOf]; omega⟩
    · obtain rfl : j = s.size + 1 := by omega
      have hW2 := (unhide hW).2 (by omega)
      go_wp2_with fail
      go_ret
      exact ⟨_, rfl, by rw [← hW2]; exact unhide hS, unhide hB⟩
end Go.Proofs.YtlmdpfhabiakmaaGreatDoor.Cut
