/-
  Which text is which token's: plain facts.
-/
import Derived.Test.YtlmdpfhabiakmaaGreatDoorTokS
import Derived.Test.YtlmdpfhabiakmaaGreatDoorCutS
import Derived.Lib.Split
namespace Go.Proofs.YtlmdpfhabiakmaaGreatDoor.Tok
set_option linter.unusedVariables false
open Num (bytesOf)
open Cut (cutL cutL_cons cutL_end)

/-- t is the text of this token -/
def IsTok (t : List UInt8) (p : Int × Int × Int × Int) : Prop := formB p.1 p.2.1 p.2.2.1 p.2.2.2 = true ∧ ptL p.1 p.2.1 p.2.2.1 p.2.2.2 = t
/-- the words of a token -/
def wordsP (p : Int × Int × Int × Int) : List (List UInt8) := [Lib.itoa p.1, Lib.itoa p.2.1, Lib.itoa p.2.2.1, Lib.itoa p.2.2.2]
theorem IsTok.num {t : List UInt8} {p : Int × Int × Int × Int} (h : IsTok t p) : Num.numOk p.1 ∧ Num.numOk p.2.1 ∧ Num.numOk p.2.2.1 ∧ Num.numOk p.2.2.2 := by
  have := form_iff.1 h.1; unfold Num.numOk; omega
theorem pt_cut (a b c d : Int) : cutL 46 (ptL a b c d) = [Lib.itoa a, Lib.itoa b, Lib.itoa c, Lib.itoa d] := by
  unfold ptL
  rw [cutL_cons 46 (Num.nodot_itoa a), cutL_cons 46 (Num.nodot_itoa b), cutL_cons 46 (Num.nodot_itoa c), cutL_end 46 (Num.nodot_itoa d)]
theorem IsTok.cut {t : List UInt8} {p : Int × Int × Int × Int} (h : IsTok t p) : cutL 46 t = wordsP p := by rw [← h.2, pt_cut]; rfl
theorem itoa_inj {a b : Int} (ha : Num.numOk a) (hb : Num.numOk b) (h : Lib.itoa a = Lib.itoa b) : a = b := by
  have h1 := Num.numL_itoa ha
  rw [h, Num.numL_itoa hb] at h1
  exact (Option.some.inj h1).symm
theorem IsTok.one {t : List UInt8} {p q : Int × Int × Int × Int} (h : IsTok t p) (k : IsTok t q) : p = q := by
  have e := h.cut.symm.trans k.cut
  unfold wordsP at e
  simp only [List.cons.injEq, and_true] at e
  obtain ⟨h1, h2, h3, h4⟩ := h.num
  obtain ⟨k1, k2, k3, k4⟩ := k.num
  obtain ⟨p1, p2, p3, p4⟩ := p
  obtain ⟨q1, q2, q3, q4⟩ := q
  simp only at *
  rw [itoa_inj h1 k1 e.1, itoa_inj h2 k2 e.2.1, itoa_inj h3 k3 e.2.2.1, itoa_inj h4 k4 e.2.2.2]
theorem len1 (n : Int) : 1 ≤ (Lib.itoa n).length := by
  have := Num.itoa_ne n
  cases h : Lib.itoa n with
  | nil => exact absurd h this
  | cons _ _ => simp
theorem IsTok.len {t : List UInt8} {p : Int × Int × Int × Int} (h : IsTok t p) : 7 ≤ t.length ∧ t.length ≤ 60 := by
  have h0 := form_iff.1 h.1
  have l1 := Num.ddLen 0 p.1.toNat (by omega)
  have l2 := Num.ddLen 6 p.2.1.toNat (by omega)
  have l3 := Num.ddLen 6 p.2.2.1.toNat (by omega)
  have l4 := Num.ddLen 9 p.2.2.2.toNat (by omega)
  have e : ∀ n : Int, 0 ≤ n → Lib.itoa n = Lib.decDigits n.toNat := fun n hn => by unfold Lib.itoa; rw [if_neg (by omega)]
  have k1 := len1 p.1
  have k2 := len1 p.2.1
  have k3 := len1 p.2.2.1
  have k4 := len1 p.2.2.2
  rw [← h.2]
  unfold ptL
  rw [e _ (by omega)] at k1 k2 k3 k4
  rw [e p.1 (by omega), e p.2.1 (by omega), e p.2.2.1 (by omega), e p.2.2.2 (by omega)]
  simp only [List.length_append, List.length_cons]
  omega
/-- what is read of a text -/
def OutTok (t : List UInt8) (ok : Bool) (p : Int × Int × Int × Int) : Prop := (ok = true ∧ IsTok t p) ∨ (ok = false ∧ p = (0, 0, 0, 0) ∧ ∀ q, ¬ IsTok t q)
theorem OutTok.one {t : List UInt8} {ok ok' : Bool} {p p' : Int × Int × Int × Int} (h : OutTok t ok p) (h' : OutTok t ok' p') : ok = ok' ∧ p = p' := by
  rcases h with ⟨rfl, h⟩ | ⟨rfl, rfl, h⟩
  · rcases h' with ⟨rfl, h'⟩ | ⟨rfl, rfl, h'⟩
    · exact ⟨rfl, h.one h'⟩
    · exact absurd h (h' _)
  · rcases h' with ⟨rfl, h'⟩ | ⟨rfl, rfl, h'⟩
    · exact absurd h' (h _)
    · exact ⟨rfl, rfl⟩
/-- the numbers that were made of the words: each is the one whose text it is, if there is one -/
theorem tok_of {t : List UInt8} {N : Int × Int × Int × Int} (hN : ∀ q, IsTok t q → N = q) (h : textT N.1 N.2.1 N.2.2.1 N.2.2.2 = t) (ht : t ≠ []) : OutTok t true N := by
  refine .inl ⟨rfl, ?_⟩
  unfold textT at h
  cases hF : formB N.1 N.2.1 N.2.2.1 N.2.2.2 with
  | true => rw [hF, if_pos rfl] at h; exact ⟨hF, h⟩
  | false => rw [hF] at h; simp at h; exact absurd h ht
theorem tok_no {t : List UInt8} {N : Int × Int × Int × Int} (hN : ∀ q, IsTok t q → N = q) (h : textT N.1 N.2.1 N.2.2.1 N.2.2.2 ≠ t) : OutTok t false (0, 0, 0, 0) := by
  refine .inr ⟨rfl, rfl, fun q hq => h ?_⟩
  rw [hN q hq]
  unfold textT
  rw [if_pos hq.1]; exact hq.2
theorem tok_none {t : List UInt8} (h : ∀ q, ¬ IsTok t q) : OutTok t false (0, 0, 0, 0) := .inr ⟨rfl, rfl, h⟩

/-! ### strings.SplitN at a point -/
theorem index_word : ∀ (w r : List UInt8), (∀ b ∈ w, b ≠ 46) → Lib.index (w ++ 46 :: r) [46] = w.length
  | [], r, _ => by simp [Lib.index, List.isPrefixOf]
  | b :: w, r, h => by
    have hb : b ≠ 46 := h b (List.mem_cons_self ..)
    have ih := index_word w r fun x hx => h x (List.mem_cons_of_mem _ hx)
    have hb' : ((46 : UInt8) == b) = false := by simpa using fun e => hb e.symm
    rw [List.cons_append, Lib.index, ih]
    simp only [List.isPrefixOf, hb', Bool.false_and, Bool.false_eq_true, if_false]
    rw [if_neg (by simp)]
    simp
theorem index_end : ∀ (w : List UInt8), (∀ b ∈ w, b ≠ 46) → Lib.index w [46] = -1
  | [], _ => by simp [Lib.index]
  | b :: w, h => by
    have hb : b ≠ 46 := h b (List.mem_cons_self ..)
    have ih := index_end w fun x hx => h x (List.mem_cons_of_mem _ hx)
    have hb' : ((46 : UInt8) == b) = false := by simpa using fun e => hb e.symm
    rw [Lib.index, ih]
    simp only [List.isPrefixOf, hb', Bool.false_and, Bool.false_eq_true, if_false]
    simp
theorem split_word {w : List UInt8} (r : List UInt8) (k : Nat) (h : ∀ b ∈ w, b ≠ 46) : Lib.splitK [46] 0 (k + 1) (w ++ 46 :: r) = w :: Lib.splitK [46] 0 k r := by
  have e : List.drop (w.length + 1) w = [] := List.drop_eq_nil_of_le (by omega)
  rw [Lib.splitK, index_word w r h, if_neg (by simp)]
  simp [List.drop_append, e]
theorem split_end {w : List UInt8} (k : Nat) (h : ∀ b ∈ w, b ≠ 46) : Lib.splitK [46] 0 k w = [w] := by
  cases k with
  | zero => rfl
  | succ k => rw [Lib.splitK, index_end w h]; simp
theorem IsTok.split {s : ByteArray} {p : Int × Int × Int × Int} (h : IsTok s.data.toList p) : (Lib.splitB ⟨#[46]⟩ 0 (min 5 (s.size + 1) - 1) s).map (·.data.toList) = wordsP p := by
  have hl := h.len
  have hs : s.data.toList.length = s.size := Array.length_toList
  have e5 : min 5 (s.size + 1) - 1 = 4 := by omega
  rw [Lib.splitB_data, e5, ← h.2]
  show Lib.splitK [46] 0 4 _ = _
  unfold ptL wordsP
  rw [split_word _ 3 (Num.nodot_itoa _), split_word _ 2 (Num.nodot_itoa _), split_word _ 1 (Num.nodot_itoa _), split_end 1 (Num.nodot_itoa _)]
end Go.Proofs.YtlmdpfhabiakmaaGreatDoor.Tok
