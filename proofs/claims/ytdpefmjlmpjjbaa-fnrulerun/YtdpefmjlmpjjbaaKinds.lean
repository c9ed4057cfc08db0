/-
  Kinds of expressions: what impl.kindOf hands out, and what the methods behind it answer.
-/
import Derived.Test.YtdpefmjlmpjjbaaProg
import Derived.WalkKit
import Derived.WalkLawsBesides
import Derived.Below
import Derived.WalkMore
import Derived.Outline
import Derived.Laws.EntriesVeiled
import Derived.Lib.Strings
import Derived.Deep.OwnRows
namespace Go.Proofs.Ytdpefmjlmpjjbaa.Kinds
set_option linter.unusedVariables false
open Go.RowKit

theorem hide {p : Prop} (h : p) : Hid p := h
theorem unhide {p : Prop} (h : Hid p) : p := h
theorem below_trans {w w1 w2 : World} (h : Below w.heap.size w w1) (k : Below w1.heap.size w1 w2) : Below w.heap.size w w2 := h.trans (k.mono h.size)

/-- the word of a kind -/
def wordK (k : Int) : ByteArray :=
  if k = 3 then ⟨#[97, 100, 100]⟩ else if k = 4 then ⟨#[115, 117, 98]⟩ else if k = 5 then ⟨#[116, 105, 109, 101, 115]⟩ else if k = 6 then ⟨#[112, 97, 114, 116]⟩
  else if k = 7 then ⟨#[109, 105, 110]⟩ else if k = 8 then ⟨#[109, 97, 120]⟩ else if k = 9 then ⟨#[105, 102]⟩ else if k = 10 then ⟨#[115, 116, 101, 112, 115]⟩ else ⟨#[]⟩
/-- how many kids a kind has -/
def kidsK (k : Int) : Int := if k = 1 ∨ k = 2 then 0 else if k = 6 ∨ k = 10 then 1 else if k = 9 then 3 else if 3 ≤ k ∧ k ≤ 8 then 2 else -1
/-- what it is behind the interface -/
def typeK (k : Int) : TypeId := if k = 1 then 81 else if k = 2 then 82 else if k = 6 then 86 else if k = 9 then 87 else if k = 10 then 88 else 85
/-- what a pair is reckoned by -/
def funK (k : Int) : Nat := if k = 3 then 30 else if k = 4 then 31 else if k = 5 then 32 else if k = 7 then 33 else 34
def isPair (k : Int) : Bool := decide (k = 3 ∨ k = 4 ∨ k = 5 ∨ k = 7 ∨ k = 8)
def recK (k : Int) : Value := if isPair k = true then .agg #[.string (wordK k), .int .i64 (kidsK k), .func (.func (funK k)) #[] #[]] else .agg #[.string (wordK k), .int .i64 (kidsK k)]
/-- what kindOf answers -/
def kindV (k : Int) : Value := if 1 ≤ k ∧ k ≤ 10 then .iface (typeK k) (recK k) else .nilIface

theorem cases10 {k : Int} (h : 1 ≤ k ∧ k ≤ 10) : k = 1 ∨ k = 2 ∨ k = 3 ∨ k = 4 ∨ k = 5 ∨ k = 6 ∨ k = 7 ∨ k = 8 ∨ k = 9 ∨ k = 10 := by omega

set_option maxHeartbeats 1000000 in
theorem kindOf (k : Int) (w : World) : Calls Try.prog 21 #[.int .i64 k] w fun e w' => e = .returned (kindV k) ∧ w' = w := by
  by_cases h : 1 ≤ k ∧ k ≤ 10
  · rcases cases10 h with rfl | rfl | rfl | rfl | rfl | rfl | rfl | rfl | rfl | rfl
    all_goals
      clear h
      go_enter Try.func21, Try.ntmps21
      go_wp2
      go_ret
      exact ⟨rfl, rfl⟩
  · have e : kindV k = .nilIface := if_neg h
    rw [e]
    have n1 : (k == 1) = false := beq_eq_false_iff_ne.2 (by omega)
    have n2 : (k == 2) = false := beq_eq_false_iff_ne.2 (by omega)
    have n3 : (k == 3) = false := beq_eq_false_iff_ne.2 (by omega)
    have n4 : (k == 4) = false := beq_eq_false_iff_ne.2 (by omega)
    have n5 : (k == 5) = false := beq_eq_false_iff_ne.2 (by omega)
    have n6 : (k == 6) = false := beq_eq_false_iff_ne.2 (by omega)
    have n7 : (k == 7) = false := beq_eq_false_iff_ne.2 (by omega)
    have n8 : (k == 8) = false := beq_eq_false_iff_ne.2 (by omega)
    have n9 : (k == 9) = false := beq_eq_false_iff_ne.2 (by omega)
    have n10 : (k == 10) = false := beq_eq_false_iff_ne.2 (by omega)
    clear e h
    go_enter Try.func21, Try.ntmps21
    go_wp2
    go_ret
    exact ⟨rfl, rfl⟩

theorem look (s : ByteArray) (n : Int) (w : World) : Calls Try.prog 64 #[.agg #[.string s, .int .i64 n]] w fun e w' => e = .returned (.agg #[.string s, .int .i64 n]) ∧ Below w.heap.size w w' := by
  go_enter Try.func64, Try.ntmps64
  go_wp2
  exact bodyPost_ret (v := .agg #[.string s, .int .i64 n]) (by simp [results, Try.results64, go_sem]) rfl ⟨rfl, ((Below.refl _ _).alloc (Nat.le_refl _) _).alloc (by simp) _⟩

/-! ### which function a method is -/
theorem mLookPair (s : ByteArray) (n : Int) (f : Value) (w : World) : (method 223 85 (.agg #[.string s, .int .i64 n, f]) "loop.example/scot/impl.look").run Try.prog w = .ok (64, .agg #[.string s, .int .i64 n]) w := by kernel_rfl
theorem mLookPart (s : ByteArray) (n : Int) (w : World) : (method 223 86 (.agg #[.string s, .int .i64 n]) "loop.example/scot/impl.look").run Try.prog w = .ok (64, .agg #[.string s, .int .i64 n]) w := by kernel_rfl
theorem mLookIf (s : ByteArray) (n : Int) (w : World) : (method 223 87 (.agg #[.string s, .int .i64 n]) "loop.example/scot/impl.look").run Try.prog w = .ok (64, .agg #[.string s, .int .i64 n]) w := by kernel_rfl
theorem mLookSteps (s : ByteArray) (n : Int) (w : World) : (method 223 88 (.agg #[.string s, .int .i64 n]) "loop.example/scot/impl.look").run Try.prog w = .ok (64, .agg #[.string s, .int .i64 n]) w := by kernel_rfl
theorem mLookNum (s : ByteArray) (n : Int) (w : World) : (method 223 81 (.agg #[.string s, .int .i64 n]) "loop.example/scot/impl.look").run Try.prog w = .ok (64, .agg #[.string s, .int .i64 n]) w := by kernel_rfl
theorem mLookMeter (s : ByteArray) (n : Int) (w : World) : (method 223 82 (.agg #[.string s, .int .i64 n]) "loop.example/scot/impl.look").run Try.prog w = .ok (64, .agg #[.string s, .int .i64 n]) w := by kernel_rfl


/-- the part that most kinds share -/
def lookV (k : Int) : Value := .agg #[.string (wordK k), .int .i64 (kidsK k)]
theorem mLook {k : Int} (h : 1 ≤ k ∧ k ≤ 10) (w : World) : (method 223 (typeK k) (recK k) "loop.example/scot/impl.look").run Try.prog w = .ok (64, lookV k) w := by
  rcases cases10 h with rfl | rfl | rfl | rfl | rfl | rfl | rfl | rfl | rfl | rfl
  · exact mLookNum _ _ w
  · exact mLookMeter _ _ w
  · exact mLookPair _ _ _ w
  · exact mLookPair _ _ _ w
  · exact mLookPair _ _ _ w
  · exact mLookPart _ _ w
  · exact mLookPair _ _ _ w
  · exact mLookPair _ _ _ w
  · exact mLookIf _ _ w
  · exact mLookSteps _ _ w
theorem kindV_in {k : Int} (h : 1 ≤ k ∧ k ≤ 10) : kindV k = .iface (typeK k) (recK k) := if_pos h
theorem kindV_out {k : Int} (h : ¬ (1 ≤ k ∧ k ≤ 10)) : kindV k = .nilIface := if_neg h

/-- the kind that a word heads, or 0 -/
def opK (s : ByteArray) : Int := if wordK 3 = s then 3 else if wordK 4 = s then 4 else if wordK 5 = s then 5 else if wordK 6 = s then 6 else if wordK 7 = s then 7 else if wordK 8 = s then 8 else if wordK 9 = s then 9 else if wordK 10 = s then 10 else 0
theorem opK_hit {s : ByteArray} {n : Int} (h1 : 3 ≤ n) (h2 : n ≤ 10) (hd : ∀ j, 3 ≤ j → j < n → wordK j ≠ s) (he : wordK n = s) : opK s = n := by
  unfold opK
  by_cases e3 : n = 3
  · subst e3; rw [if_pos he]
  rw [if_neg (hd 3 (by omega) (by omega))]
  by_cases e4 : n = 4
  · subst e4; rw [if_pos he]
  rw [if_neg (hd 4 (by omega) (by omega))]
  by_cases e5 : n = 5
  · subst e5; rw [if_pos he]
  rw [if_neg (hd 5 (by omega) (by omega))]
  by_cases e6 : n = 6
  · subst e6; rw [if_pos he]
  rw [if_neg (hd 6 (by omega) (by omega))]
  by_cases e7 : n = 7
  · subst e7; rw [if_pos he]
  rw [if_neg (hd 7 (by omega) (by omega))]
  by_cases e8 : n = 8
  · subst e8; rw [if_pos he]
  rw [if_neg (hd 8 (by omega) (by omega))]
  by_cases e9 : n = 9
  · subst e9; rw [if_pos he]
  rw [if_neg (hd 9 (by omega) (by omega))]
  obtain rfl : n = 10 := by omega
  rw [if_pos he]
theorem opK_none {s : ByteArray} (hd : ∀ j, 3 ≤ j → j < 11 → wordK j ≠ s) : opK s = 0 := by
  unfold opK
  rw [if_neg (hd 3 (by omega) (by omega)), if_neg (hd 4 (by omega) (by omega)), if_neg (hd 5 (by omega) (by omega)), if_neg (hd 6 (by omega) (by omega)), if_neg (hd 7 (by omega) (by omega)), if_neg (hd 8 (by omega) (by omega)), if_neg (hd 9 (by omega) (by omega)), if_neg (hd 10 (by omega) (by omega))]

theorem ext_toList {s t : ByteArray} (h : s.toList = t.toList) : s = t := by
  rw [Lib.toList_data, Lib.toList_data] at h
  cases s; cases t
  simp only at h
  rw [Array.toList_inj.1 h]
theorem eqB {s t : ByteArray} (h : s = t) : (s.toList == t.toList) = true := by rw [h]; simp
theorem neB {s t : ByteArray} (h : s ≠ t) : (s.toList == t.toList) = false := by
  rw [beq_eq_false_iff_ne]; intro e; exact h (ext_toList e)

set_option maxRecDepth 20000 in
set_option maxHeartbeats 1000000 in
/-- impl.kindNamed -/
theorem namedI (s : ByteArray) (w : World) : Calls Try.prog 75 #[.string s] w fun e w' => e = .returned (.int .i64 (opK s)) ∧ Below w.heap.size w w' := by
  generalize hr : opK s = r
  have HR := hide hr; clear hr
  go_enter Try.func75, Try.ntmps75
  go_wp2
  go_loopw [3] (fun i wr => ∃ n : Int, 3 ≤ n ∧ n ≤ 11 ∧ i = .int .i64 n ∧ Hid (∀ j, 3 ≤ j → j < n → wordK j ≠ s) ∧ Hid (Below w.heap.size w wr)) (fun i _ => 11 - (intOf i).toNat)
  case atStart => exact ⟨3, by omega, by omega, rfl, hide (fun j h1 h2 => by omega), hide (Below.refl _ _)⟩
  case round =>
    obtain ⟨n, hn3, hn11, rfl, hd, hb⟩ := hrel
    by_cases hlt : n ≤ 10
    · have hk : 1 ≤ n ∧ n ≤ 10 := ⟨by omega, hlt⟩
      have m1 := mLook hk
      have fl : ∀ (w : World), (Instr.field 78 (.agg #[.string (wordK n), .int .i64 (kidsK n)]) 0).run Try.prog w = .ok (.string (wordK n)) w := fun w => by kernel_rfl
      go_wp2_with (fail)
      refine (kindOf _ _).mono ?_
      rintro e w1 ⟨rfl, rfl⟩
      rw [kindV_in hk]
      go_wp2_with (fail)
      refine (look _ _ _).mono ?_
      rintro e w2 ⟨rfl, hb2⟩
      have HB := hide (below_trans (unhide hb) hb2)
      clear hb hb2
      by_cases he : wordK n = s
      · have hr : r = n := (unhide HR).symm.trans (opK_hit hn3 hlt (unhide hd) he)
        subst hr
        have hx := eqB he
        clear he
        go_wp2
        go_ret
        exact ⟨rfl, unhide HB⟩
      · have hd' : Hid (∀ j, 3 ≤ j → j < n + 1 → wordK j ≠ s) := hide (fun j h1 h2 => by
          by_cases e : j < n
          · exact unhide hd j h1 e
          · obtain rfl : j = n := by omega
            exact he)
        have hx := neB he
        clear he
        go_wp2
        exact ⟨⟨n + 1, by omega, by omega, rfl, hd', HB⟩, by simp [intOf]; omega⟩
    · have hr : r = 0 := (unhide HR).symm.trans (opK_none (fun j h1 h2 => unhide hd j h1 (by omega)))
      subst hr
      go_wp2
      go_ret
      exact ⟨rfl, unhide hb⟩

/-- a word of letters -/
def lettersB (l : List UInt8) : Bool := l.all fun c => decide (97 ≤ (c.toNat : Int) ∧ (c.toNat : Int) ≤ 122)
def tierW : ByteArray := ⟨#[116, 105, 101, 114]⟩
/-- RuleName -/
def nameB (s : ByteArray) : Bool := decide (1 ≤ s.size ∧ s.size ≤ 8) && lettersB s.data.toList && decide (opK s = 0) && decide (s ≠ tierW)

theorem nameB_size {s : ByteArray} (h : ¬ (1 ≤ s.size ∧ s.size ≤ 8)) : nameB s = false := by unfold nameB; rw [decide_eq_false h]; simp
theorem nameB_letter {s : ByteArray} {k : Nat} (hk : k < s.size) (h : ¬ (97 ≤ (s[k].toNat : Int) ∧ (s[k].toNat : Int) ≤ 122)) : nameB s = false := by
  have : lettersB s.data.toList = false := by
    unfold lettersB
    rw [List.all_eq_false]
    refine ⟨s[k], ?_, ?_⟩
    · exact Array.getElem_mem_toList (xs := s.data) hk
    · rw [decide_eq_false h]; simp
  unfold nameB; rw [this]; simp
theorem nameB_rest {s : ByteArray} (h : 1 ≤ s.size ∧ s.size ≤ 8) (hl : ∀ j (hj : j < s.size), 97 ≤ (s[j].toNat : Int) ∧ (s[j].toNat : Int) ≤ 122) : nameB s = (decide (opK s = 0) && decide (s ≠ tierW)) := by
  have : lettersB s.data.toList = true := by
    unfold lettersB
    rw [List.all_eq_true]
    intro c hc
    obtain ⟨j, hj, rfl⟩ := List.getElem_of_mem hc
    exact decide_eq_true (hl j (by simpa using hj))
  unfold nameB; rw [this, decide_eq_true h]; simp

set_option maxHeartbeats 1000000 in
/-- impl.RuleName -/
theorem nameI (s : ByteArray) (w : World) (hs : s.size ≤ maxLen) : Calls Try.prog 73 #[.string s] w fun e w' => e = .returned (.bool (nameB s)) ∧ Below w.heap.size w w' := by
  unfold maxLen at hs
  by_cases hsz : 1 ≤ s.size ∧ s.size ≤ 8
  · obtain ⟨z1, z2⟩ := hsz
    have y1 : (1 : Int) ≤ (s.size : Int) := by omega
    have y2 : (s.size : Int) ≤ 8 := by omega
    generalize hr : nameB s = r
    have HR := hide hr; clear hr
    go_enter Try.func73, Try.ntmps73
    go_wp2
    go_loop [14] (fun i => ∃ k : Nat, k ≤ s.size ∧ i = .int .i64 k ∧ Hid (∀ j (hj : j < s.size), j < k → 97 ≤ (s[j].toNat : Int) ∧ (s[j].toNat : Int) ≤ 122)) (fun i => s.size - (intOf i).toNat)
    case atStart => exact ⟨0, Nat.zero_le _, rfl, hide (fun j hj h => by omega)⟩
    case round =>
      obtain ⟨k, hk, rfl, hd⟩ := hrel
      by_cases hlt : k < s.size
      · by_cases hc : 97 ≤ (s[k].toNat : Int) ∧ (s[k].toNat : Int) ≤ 122
        · have hd' : Hid (∀ j (hj : j < s.size), j < k + 1 → 97 ≤ (s[j].toNat : Int) ∧ (s[j].toNat : Int) ≤ 122) := hide (fun j hj h => by
            by_cases e : j < k
            · exact unhide hd j hj e
            · obtain rfl : j = k := by omega
              exact hc)
          obtain ⟨a1, a2⟩ := hc
          go_wp2
          exact ⟨⟨k + 1, by omega, by go_num, hd'⟩, by simp [intOf]; omega⟩
        · have hr : r = false := (unhide HR).symm.trans (nameB_letter hlt hc)
          subst hr
          by_cases h97 : (s[k].toNat : Int) < 97
          · go_wp2
            go_ret
            exact ⟨rfl, Below.refl _ _⟩
          · have h122 : 122 < (s[k].toNat : Int) := by omega
            go_wp2
            go_ret
            exact ⟨rfl, Below.refl _ _⟩
      · have hr : r = (decide (opK s = 0) && decide (s ≠ tierW)) := (unhide HR).symm.trans (nameB_rest ⟨z1, z2⟩ (fun j hj => unhide hd j hj (by omega)))
        by_cases ht : s = tierW
        · have e : (decide (opK s = 0) && decide (s ≠ tierW)) = false := by simp [ht]
          rw [e] at hr
          subst hr
          have hx : (!s.toList == [116, 105, 101, 114]) = false := by rw [ht, Lib.toList_data]; rfl
          clear e ht
          go_wp2_with (fail)
          go_ret
          exact ⟨rfl, Below.refl _ _⟩
        · have e : (decide (opK s = 0) && decide (s ≠ tierW)) = decide (opK s = 0) := by simp [ht]
          rw [e] at hr
          subst hr
          have hx : (!s.toList == [116, 105, 101, 114]) = true := by
            have : s.toList ≠ tierW.toList := fun h => ht (ext_toList h)
            rw [Lib.toList_data tierW] at this
            simpa [tierW] using this
          clear e ht
          go_wp2_with (fail)
          refine (namedI s _).mono ?_
          rintro e w1 ⟨rfl, hb1⟩
          have HB := hide hb1
          clear hb1
          have hd : (opK s == 0) = decide (opK s = 0) := rfl
          go_wp2
          go_ret
          exact ⟨rfl, unhide HB⟩
  · rw [nameB_size hsz]
    by_cases z1 : (s.size : Int) < 1
    · go_enter Try.func73, Try.ntmps73
      go_wp2
      go_ret
      exact ⟨rfl, Below.refl _ _⟩
    · have z2 : (8 : Int) < s.size := by omega
      go_enter Try.func73, Try.ntmps73
      go_wp2
      go_ret
      exact ⟨rfl, Below.refl _ _⟩

set_option maxRecDepth 20000 in
set_option maxHeartbeats 1000000 in
/-- spec.l2Op -/
theorem opS (s : ByteArray) (w : World) : Calls Try.prog 46 #[.string s] w fun e w' => e = .returned (.int .i64 (opK s)) ∧ Below w.heap.size w w' := by
  generalize hr : opK s = r
  have HR := hide hr; clear hr
  have hcell : ∀ k : Nat, k < 8 → (w.alloc (.cells #[.string (wordK 3), .string (wordK 4), .string (wordK 5), .string (wordK 6), .string (wordK 7), .string (wordK 8), .string (wordK 9), .string (wordK 10)] 9)).cell? ⟨w.heap.size, k, none⟩ = some (.string (wordK (k + 3))) := fun k hk => by
    have e1 := (MapKept.heap_alloc w (.cells #[.string (wordK 3), .string (wordK 4), .string (wordK 5), .string (wordK 6), .string (wordK 7), .string (wordK 8), .string (wordK 9), .string (wordK 10)] 9)).1
    simp only [World.cell?]
    rw [e1]
    rcases (by omega : k = 0 ∨ k = 1 ∨ k = 2 ∨ k = 3 ∨ k = 4 ∨ k = 5 ∨ k = 6 ∨ k = 7) with rfl | rfl | rfl | rfl | rfl | rfl | rfl | rfl <;> rfl
  have HCE := hide hcell
  clear hcell
  go_enter Try.func46, Try.ntmps46
  go_wp2
  go_loop [4] (fun i => ∃ k : Nat, k ≤ 8 ∧ i = .int .i64 k ∧ Hid (∀ j : Int, 3 ≤ j → j < k + 3 → wordK j ≠ s)) (fun i => 8 - (intOf i).toNat)
  case atStart => exact ⟨0, Nat.zero_le _, rfl, hide (fun j h1 h2 => by omega)⟩
  case round =>
    obtain ⟨k, hk, rfl, hd⟩ := hrel
    by_cases hlt : k < 8
    · have hc := unhide HCE k hlt
      have hc' : (w.alloc (Obj.cells #[Value.string ⟨#[97, 100, 100]⟩, Value.string ⟨#[115, 117, 98]⟩, .string ⟨#[116, 105, 109, 101, 115]⟩, .string ⟨#[112, 97, 114, 116]⟩, .string ⟨#[109, 105, 110]⟩, .string ⟨#[109, 97, 120]⟩, .string ⟨#[105, 102]⟩, .string ⟨#[115, 116, 101, 112, 115]⟩] 9)).cell? ⟨w.heap.size, k, none⟩ = some (.string (wordK (k + 3))) := hc
      clear hc
      by_cases he : wordK (k + 3) = s
      · have hr : r = k + 3 := (unhide HR).symm.trans (opK_hit (by omega) (by omega) (unhide hd) he)
        subst hr
        have hx := eqB he
        clear he
        generalize wordK (k + 3) = t at *
        go_wp2
        go_ret
        exact ⟨rfl, (Below.refl _ _).alloc (Nat.le_refl _) _⟩
      · have hd' : Hid (∀ j : Int, 3 ≤ j → j < ((k + 1 : Nat) : Int) + 3 → wordK j ≠ s) := hide (fun j h1 h2 => by
          by_cases e : j < k + 3
          · exact unhide hd j h1 e
          · obtain rfl : j = k + 3 := by omega
            exact he)
        have hx := neB he
        clear he
        generalize wordK (k + 3) = t at *
        go_wp2
        exact ⟨⟨k + 1, by omega, by go_num, hd'⟩, by simp [intOf]; omega⟩
    · have hr : r = 0 := (unhide HR).symm.trans (opK_none (fun j h1 h2 => unhide hd j h1 (by omega)))
      subst hr
      go_wp2
      go_ret
      exact ⟨rfl, (Below.refl _ _).alloc (Nat.le_refl _) _⟩

set_option maxHeartbeats 1000000 in
/-- spec.RuleName -/
theorem nameS (s : ByteArray) (w : World) (hs : s.size ≤ maxLen) : Calls Try.prog 43 #[.string s] w fun e w' => e = .returned (.bool (nameB s)) ∧ Below w.heap.size w w' := by
  unfold maxLen at hs
  by_cases hsz : 1 ≤ s.size ∧ s.size ≤ 8
  · obtain ⟨z1, z2⟩ := hsz
    have y1 : (1 : Int) ≤ (s.size : Int) := by omega
    have y2 : (s.size : Int) ≤ 8 := by omega
    generalize hr : nameB s = r
    have HR := hide hr; clear hr
    go_enter Try.func43, Try.ntmps43
    go_wp2
    go_loop [3] (fun i => ∃ k : Nat, k ≤ s.size ∧ i = .int .i64 k ∧ Hid (∀ j (hj : j < s.size), j < k → 97 ≤ (s[j].toNat : Int) ∧ (s[j].toNat : Int) ≤ 122)) (fun i => s.size - (intOf i).toNat)
    case atStart => exact ⟨0, Nat.zero_le _, rfl, hide (fun j hj h => by omega)⟩
    case round =>
      obtain ⟨k, hk, rfl, hd⟩ := hrel
      by_cases hlt : k < s.size
      · by_cases hc : 97 ≤ (s[k].toNat : Int) ∧ (s[k].toNat : Int) ≤ 122
        · have hd' : Hid (∀ j (hj : j < s.size), j < k + 1 → 97 ≤ (s[j].toNat : Int) ∧ (s[j].toNat : Int) ≤ 122) := hide (fun j hj h => by
            by_cases e : j < k
            · exact unhide hd j hj e
            · obtain rfl : j = k := by omega
              exact hc)
          obtain ⟨a1, a2⟩ := hc
          go_wp2
          exact ⟨⟨k + 1, by omega, by go_num, hd'⟩, by simp [intOf]; omega⟩
        · have hr : r = false := (unhide HR).symm.trans (nameB_letter hlt hc)
          subst hr
          by_cases h97 : (s[k].toNat : Int) < 97
          · go_wp2
            go_ret
            exact ⟨rfl, Below.refl _ _⟩
          · have h122 : 122 < (s[k].toNat : Int) := by omega
            go_wp2
            go_ret
            exact ⟨rfl, Below.refl _ _⟩
      · have hr : r = (decide (opK s = 0) && decide (s ≠ tierW)) := (unhide HR).symm.trans (nameB_rest ⟨z1, z2⟩ (fun j hj => unhide hd j hj (by omega)))
        go_wp2_with (fail)
        refine (opS s _).mono ?_
        rintro e w1 ⟨rfl, hb1⟩
        have HB := hide hb1
        clear hb1
        by_cases ho : opK s = 0
        · have h1 : (opK s == 0) = true := by simp [ho]
          by_cases ht : s = tierW
          · have e : (decide (opK s = 0) && decide (s ≠ tierW)) = false := by simp [ht]
            rw [e] at hr
            subst hr
            have hx : (!s.toList == [116, 105, 101, 114]) = false := by rw [ht, Lib.toList_data]; rfl
            clear e ht ho
            go_wp2
            go_ret
            exact ⟨rfl, unhide HB⟩
          · have e : (decide (opK s = 0) && decide (s ≠ tierW)) = true := by simp [ht, ho]
            rw [e] at hr
            subst hr
            have hx : (!s.toList == [116, 105, 101, 114]) = true := by
              have : s.toList ≠ tierW.toList := fun h => ht (ext_toList h)
              rw [Lib.toList_data tierW] at this
              simpa [tierW] using this
            clear e ht ho
            go_wp2
            go_ret
            exact ⟨rfl, unhide HB⟩
        · have h1 : (opK s == 0) = false := by simp [ho]
          have e : (decide (opK s = 0) && decide (s ≠ tierW)) = false := by simp [ho]
          rw [e] at hr
          subst hr
          clear e ho
          go_wp2
          go_ret
          exact ⟨rfl, unhide HB⟩
  · rw [nameB_size hsz]
    by_cases z1 : (s.size : Int) < 1
    · go_enter Try.func43, Try.ntmps43
      go_wp2
      go_ret
      exact ⟨rfl, Below.refl _ _⟩
    · have z2 : (8 : Int) < s.size := by omega
      go_enter Try.func43, Try.ntmps43
      go_wp2
      go_ret
      exact ⟨rfl, Below.refl _ _⟩

end Go.Proofs.Ytdpefmjlmpjjbaa.Kinds
