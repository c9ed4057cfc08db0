/-
  The head behind a text (ChainMix): the program's and the document's reckon one and the same number; a byte more or another head is never lost.
-/
import Derived.Test.YtgaflnkefjmblaaProg
import Derived.WalkKit
import Derived.WalkLawsBesides
import Derived.Below
import Derived.WalkMore
import Derived.Outline
import Derived.Lib.Strings
import Derived.Deep.OwnRows
namespace Go.Proofs.Ytgaflnkefjmblaa.Chain
set_option linter.unusedVariables false
open Go.RowKit

theorem hide {p : Prop} (h : p) : Hid p := h
theorem unhide {p : Prop} (h : Hid p) : p := h
theorem below_trans {w w1 w2 : World} (h : Below w.heap.size w w1) (k : Below w1.heap.size w1 w2) : Below w.heap.size w w2 := h.trans (k.mono h.size)

/-- one byte more -/
def mix1 (h : Int) (b : UInt8) : Int := (h * 16777619 + (b.toNat : Int) + 1) % 65521
/-- bytes more -/
def mixF : Int → List UInt8 → Int
  | h, [] => h
  | h, b :: l => mixF (mix1 h b) l
/-- a head brought into its bounds -/
def headL (k : Int) : Int := if k < 0 then 0 else if 65520 < k then 65520 else k
/-- what is begun with -/
def mix0 (k : Int) (n : Nat) : Int := (headL k + (n : Int) * 65537 + 1) % 65521
/-- ChainMix -/
def mixL (k : Int) (l : List UInt8) : Int := mixF (mix0 k l.length) l

theorem headL_bd (k : Int) : 0 ≤ headL k ∧ headL k ≤ 65520 := by
  unfold headL; split
  · omega
  · split <;> omega
theorem head3 (k : Int) : (k < 0 ∧ headL k = 0) ∨ (0 ≤ k ∧ 65520 < k ∧ headL k = 65520) ∨ (0 ≤ k ∧ k ≤ 65520 ∧ headL k = k) := by
  unfold headL; split
  · exact .inl ⟨by assumption, rfl⟩
  · split
    · exact .inr (.inl ⟨by omega, by assumption, rfl⟩)
    · exact .inr (.inr ⟨by omega, by omega, rfl⟩)
theorem mix1_bd (h : Int) (b : UInt8) : 0 ≤ mix1 h b ∧ mix1 h b ≤ 65520 := by unfold mix1; omega
theorem mix0_bd (k : Int) (n : Nat) : 0 ≤ mix0 k n ∧ mix0 k n ≤ 65520 := by unfold mix0; omega
theorem mixF_bd : ∀ (l : List UInt8) (h : Int), 0 ≤ h ∧ h ≤ 65520 → 0 ≤ mixF h l ∧ mixF h l ≤ 65520
  | [], h, hh => hh
  | b :: l, h, hh => mixF_bd l _ (mix1_bd h b)
theorem mixL_bd (k : Int) (l : List UInt8) : 0 ≤ mixL k l ∧ mixL k l ≤ 65520 := mixF_bd l _ (mix0_bd k _)
theorem mixF_append : ∀ (a b : List UInt8) (h : Int), mixF h (a ++ b) = mixF (mixF h a) b
  | [], _, _ => rfl
  | x :: a, b, h => mixF_append a b (mix1 h x)
theorem mulF {x y : Int} (e : x * 16777619 = 65521 * y) : ∃ t, x = 65521 * t := by
  refine ⟨51376 * y - 13155583 * x, ?_⟩
  grind
theorem mix1_inj {h h' : Int} {b : UInt8} (h1 : 0 ≤ h ∧ h ≤ 65520) (h2 : 0 ≤ h' ∧ h' ≤ 65520) (e : mix1 h b = mix1 h' b) : h = h' := by
  unfold mix1 at e
  have e1 := Int.emod_add_mul_ediv (h * 16777619 + (b.toNat : Int) + 1) 65521
  have e2 := Int.emod_add_mul_ediv (h' * 16777619 + (b.toNat : Int) + 1) 65521
  rw [e] at e1
  generalize (h * 16777619 + (b.toNat : Int) + 1) / 65521 = q1 at e1
  generalize (h' * 16777619 + (b.toNat : Int) + 1) / 65521 = q2 at e2
  generalize (h' * 16777619 + (b.toNat : Int) + 1) % 65521 = r at e1 e2
  clear e
  have e3 : (h - h') * 16777619 = 65521 * (q1 - q2) := by omega
  obtain ⟨t, e4⟩ := mulF e3
  obtain ⟨h3, h4⟩ := h1
  obtain ⟨h5, h6⟩ := h2
  clear e1 e2 e3
  omega
theorem mixF_inj : ∀ (l : List UInt8) (h h' : Int), 0 ≤ h ∧ h ≤ 65520 → 0 ≤ h' ∧ h' ≤ 65520 → mixF h l = mixF h' l → h = h'
  | [], h, h', _, _, e => e
  | b :: l, h, h', h1, h2, e => mix1_inj h1 h2 (mixF_inj l _ _ (mix1_bd h b) (mix1_bd h' b) e)
theorem mix1_byte {h : Int} {b c : UInt8} (hb : b ≠ c) : mix1 h b ≠ mix1 h c := by
  intro e
  apply hb
  apply UInt8.toNat_inj.1
  have h1 := b.toNat_lt
  have h2 := c.toNat_lt
  unfold mix1 at e; omega
/-- a text in which one byte is another one has another mix -/
theorem mixF_one (a : List UInt8) {b c : UInt8} (l : List UInt8) (h : Int) (hb : b ≠ c) : mixF h (a ++ b :: l) ≠ mixF h (a ++ c :: l) := by
  rw [mixF_append, mixF_append]
  exact fun e => mix1_byte hb (mixF_inj l _ _ (mix1_bd _ b) (mix1_bd _ c) e)
/-- behind another head a text has another mix -/
theorem mixL_inj {h h' : Int} {l : List UInt8} (h1 : 0 ≤ h ∧ h ≤ 65520) (h2 : 0 ≤ h' ∧ h' ≤ 65520) (e : mixL h l = mixL h' l) : h = h' := by
  have := mixF_inj l _ _ (mix0_bd _ _) (mix0_bd _ _) e
  unfold mix0 headL at this
  rw [if_neg (by omega), if_neg (by omega), if_neg (by omega), if_neg (by omega)] at this
  omega
theorem mixF_take {l : List UInt8} {k : Nat} {b : UInt8} (h : Int) (hb : l[k]? = some b) : mixF h (l.take (k + 1)) = mix1 (mixF h (l.take k)) b := by
  have : l.take (k + 1) = l.take k ++ [b] := by rw [List.take_add_one, hb]; rfl
  rw [this, mixF_append]; rfl
theorem by_at {y : ByteArray} {k : Nat} (h : k < y.size) : y.data.toList[k]? = some y[k] := by
  have hl : y.data.toList.length = y.size := Array.length_toList
  rw [List.getElem?_eq_getElem (by omega)]; simp; rfl

theorem ret_of {k r h : Int} {l : List UInt8} {n : Nat} (h1 : mixL k l = r) (h2 : mixF (mix0 k l.length) (l.take n) = h) (h3 : l.length ≤ n) : Ending.returned (.int .i64 h) = .returned (.int .i64 r) := by
  rw [List.take_of_length_le h3] at h2
  rw [← h1, ← h2]; rfl

theorem lowS (k : Int) (w : World) : Calls Try.prog 41 #[.int .i64 k, .int .i64 65520] w fun e w' => e = .returned (.int .i64 (headL k)) ∧ w' = w := by
  unfold headL
  by_cases h0 : k < 0
  · rw [if_pos h0]
    go_enter Try.func41, Try.ntmps41
    go_wp2
    go_ret
    exact ⟨rfl, rfl⟩
  · rw [if_neg h0]
    by_cases h1 : 65520 < k
    · rw [if_pos h1]
      go_enter Try.func41, Try.ntmps41
      go_wp2
      go_ret
      exact ⟨rfl, rfl⟩
    · rw [if_neg h1]
      go_enter Try.func41, Try.ntmps41
      go_wp2
      go_ret
      exact ⟨rfl, rfl⟩

set_option maxHeartbeats 1000000 in
/-- spec.ChainMix -/
theorem mixS (k : Int) (s : ByteArray) (w : World) (hs : s.size ≤ 100000000) : Calls Try.prog 20 #[.int .i64 k, .string s] w fun e w' => e = .returned (.int .i64 (mixL k s.data.toList)) ∧ w' = w := by
  have hlen : s.data.toList.length = s.size := Array.length_toList
  have hk := headL_bd k
  have hm := mix0_bd k s.size
  generalize hr : mixL k s.data.toList = r
  have HR := hide hr; clear hr
  go_enter Try.func20, Try.ntmps20
  go_wp2_with (first | (go_at_call 41; refine (lowS _ _).mono ?_; rintro e w' ⟨rfl, rfl⟩))
  go_loop [5, 6] (fun t3 t4 => ∃ (h : Int) (j : Nat), j ≤ s.size ∧ t4 = .int .i64 j ∧ t3 = .int .i64 h ∧ (0 ≤ h ∧ h ≤ 65520) ∧ Hid (mixF (mix0 k s.size) (s.data.toList.take j) = h)) (fun _ t4 => s.size - (intOf t4).toNat)
  case atStart => exact ⟨mix0 k s.size, 0, Nat.zero_le _, rfl, by unfold mix0; go_num, hm, hide (by simp [mixF])⟩
  case round =>
    obtain ⟨h, j, hj, rfl, rfl, hh, hd⟩ := hrel
    by_cases hlt : j < s.size
    · have hb := s[j].toNat_lt
      have hd' : Hid (mixF (mix0 k s.size) (s.data.toList.take (j + 1)) = mix1 h s[j]) := hide (by rw [mixF_take _ (by_at hlt), unhide hd])
      go_wp2
      exact ⟨⟨mix1 h s[j], j + 1, by omega, by go_num, by unfold mix1; go_num, mix1_bd _ _, hd'⟩, by simp [intOf]; omega⟩
    · obtain rfl : j = s.size := by omega
      go_wp2
      go_ret
      exact ⟨ret_of (unhide HR) (by rw [hlen]; exact unhide hd) (by omega), rfl⟩

set_option maxHeartbeats 1000000 in
/-- impl.ChainMix -/
theorem mixI (k : Int) (s : ByteArray) (w : World) (hs : s.size ≤ 100000000) : Calls Try.prog 18 #[.int .i64 k, .string s] w fun e w' => e = .returned (.int .i64 (mixL k s.data.toList)) ∧ w' = w := by
  have hlen : s.data.toList.length = s.size := Array.length_toList
  have hk := headL_bd k
  generalize hr : mixL k s.data.toList = r
  have HR := hide hr; clear hr
  have hstart : ∀ h0 : Int, headL k = h0 → (h0 + 65537 * (s.size : Int) + 1) % 65521 = mix0 k s.size := fun h0 e => by subst e; unfold mix0; congr 1; omega
  rcases head3 k with ⟨k0, ek⟩ | ⟨k0, k1, ek⟩ | ⟨k0, k1, ek⟩
  all_goals
    have EK := hide ek
    clear ek hk
    go_enter Try.func18, Try.ntmps18
    go_wp2
    go_loop [6, 20] (fun t3 t4 => ∃ (h : Int) (j : Nat), j ≤ s.size ∧ t4 = .int .i64 j ∧ t3 = .int .i64 h ∧ (0 ≤ h ∧ h ≤ 65520) ∧ Hid (mixF (mix0 k s.size) (s.data.toList.take j) = h)) (fun _ t4 => s.size - (intOf t4).toNat)
    case atStart => exact ⟨mix0 k s.size, 0, Nat.zero_le _, rfl, by rw [← hstart _ (unhide EK)]; try go_num, mix0_bd _ _, hide (by simp [mixF])⟩
    case round =>
      obtain ⟨h, j, hj, rfl, rfl, hh, hd⟩ := hrel
      by_cases hlt : j < s.size
      · have hb := s[j].toNat_lt
        have hd' : Hid (mixF (mix0 k s.size) (s.data.toList.take (j + 1)) = mix1 h s[j]) := hide (by rw [mixF_take _ (by_at hlt), unhide hd])
        go_wp2
        exact ⟨⟨mix1 h s[j], j + 1, by omega, by go_num, by unfold mix1; go_num, mix1_bd _ _, hd'⟩, by simp [intOf]; omega⟩
      · obtain rfl : j = s.size := by omega
        go_wp2
        go_ret
        exact ⟨ret_of (unhide HR) (by rw [hlen]; exact unhide hd) (by omega), rfl⟩
end Go.Proofs.Ytgaflnkefjmblaa.Chain
