/-
  Texts of this proof laid together, in build order; each says of itself what it holds.
-/
import Derived.Test.YtnchgeiinkaefaaGreatDoorProg
import Derived.WalkKit
import Derived.WalkLawsBesides
import Derived.Below
import Derived.WalkMore
import Derived.Outline
import Derived.Laws.EntriesVeiled
import Derived.Lib.Strings
import Derived.Deep.OwnRows
import Derived.Test.YtnchgeiinkaefaaGreatDoorZab
section
/-
  Kinds of expressions: what impl.kindOf hands out, and what the methods behind it answer.
-/
namespace Go.Proofs.YtnchgeiinkaefaaGreatDoor.Kinds
set_option linter.unusedVariables false
open Go.RowKit

theorem hide {p : Prop} (h : p) : Hid p := h
theorem unhide {p : Prop} (h : Hid p) : p := h
theorem below_trans {w w1 w2 : World} (h : Below w.heap.size w w1) (k : Below w1.heap.size w1 w2) : Below w.heap.size w w2 := h.trans (k.mono h.size)

/-- the word of a kind -/
def wordK (k : Int) : ByteArray :=
  if k = 3 then ⟨#[97, 100, 100]⟩ else if k = 4 then ⟨#[115, 117, 98]⟩ else if k = 5 then ⟨#[116, 105, 109, 101, 115]⟩ else if k = 6 then ⟨#[112, 97, 114, 116]⟩
  else if k = 7 then ⟨#[109, 105, 110]⟩ else if k = 8 then ⟨#[109, 97, 120]⟩ else if k = 9 then ⟨#[105, 102]⟩ else if k = 10 then ⟨#[115, 116, 101, 112, 115]⟩ else ⟨#[]⟩
/-- how many kids a kind has -/
def kidsK (k : Int) : Int := if k = 1 ∨ k = 2 then 0 else if k = 6 ∨ k = 10 then 1 else if k = 9 then 3 else if 3 ≤ k ∧ k ≤ 8 then 2 else -1
/-- what it is behind the interface -/
def typeK (k : Int) : TypeId := if k = 1 then 221 else if k = 2 then 222 else if k = 6 then 225 else if k = 9 then 226 else if k = 10 then 227 else 224
/-- what a pair is reckoned by -/
def funK (k : Int) : Nat := if k = 3 then 136 else if k = 4 then 137 else if k = 5 then 138 else if k = 7 then 139 else 140
def isPair (k : Int) : Bool := decide (k = 3 ∨ k = 4 ∨ k = 5 ∨ k = 7 ∨ k = 8)
def recK (k : Int) : Value := if isPair k = true then .agg #[.string (wordK k), .int .i64 (kidsK k), .func (.func (funK k)) #[] #[]] else .agg #[.string (wordK k), .int .i64 (kidsK k)]
/-- what kindOf answers -/
def kindV (k : Int) : Value := if 1 ≤ k ∧ k ≤ 10 then .iface (typeK k) (recK k) else .nilIface

theorem cases10 {k : Int} (h : 1 ≤ k ∧ k ≤ 10) : k = 1 ∨ k = 2 ∨ k = 3 ∨ k = 4 ∨ k = 5 ∨ k = 6 ∨ k = 7 ∨ k = 8 ∨ k = 9 ∨ k = 10 := by omega

set_option maxHeartbeats 1000000 in
theorem kindOf (k : Int) (w : World) : Calls Tryz.prog 119 #[.int .i64 k] w fun e w' => e = .returned (kindV k) ∧ w' = w := by
  by_cases h : 1 ≤ k ∧ k ≤ 10
  · rcases cases10 h with rfl | rfl | rfl | rfl | rfl | rfl | rfl | rfl | rfl | rfl
    all_goals
      clear h
      go_enter Tryz.func119, Tryz.ntmps119
      go_wp2
      go_ret
      exact ⟨rfl, rfl⟩
  · have e : kindV k = .nilIface := if_neg h
    rw [e]
    have n1 : (k == 1) = false := beq_eq_false_iff_ne.2 (by omega)
    have n2 : (k == 2) = false := beq_eq_false_iff_ne.2 (by omega)
    have n3 : (k == 3) = false := beq_eq_false_iff_ne.2 (by omega)
    have n4 : (k == 4) = false := beq_eq_false_iff_ne.2 (by omega)
    have n5 : (k == 5) = false := beq_eq_false_iff_ne.2 (by omega)
    have n6 : (k == 6) = false := beq_eq_false_iff_ne.2 (by omega)
    have n7 : (k == 7) = false := beq_eq_false_iff_ne.2 (by omega)
    have n8 : (k == 8) = false := beq_eq_false_iff_ne.2 (by omega)
    have n9 : (k == 9) = false := beq_eq_false_iff_ne.2 (by omega)
    have n10 : (k == 10) = false := beq_eq_false_iff_ne.2 (by omega)
    clear e h
    go_enter Tryz.func119, Tryz.ntmps119
    go_wp2
    go_ret
    exact ⟨rfl, rfl⟩

theorem look (s : ByteArray) (n : Int) (w : World) : Calls Tryz.prog 262 #[.agg #[.string s, .int .i64 n]] w fun e w' => e = .returned (.agg #[.string s, .int .i64 n]) ∧ Below w.heap.size w w' := by
  go_enter Tryz.func262, Tryz.ntmps262
  go_wp2
  exact bodyPost_ret (v := .agg #[.string s, .int .i64 n]) (by simp [results, Tryz.results262, go_sem]) rfl ⟨rfl, ((Below.refl _ _).alloc (Nat.le_refl _) _).alloc (by simp) _⟩

/-! ### which function a method is -/
theorem mLookPair (s : ByteArray) (n : Int) (f : Value) (w : World) : (method 453 224 (.agg #[.string s, .int .i64 n, f]) "loop.example/scot/impl.look").run Tryz.prog w = .ok (262, .agg #[.string s, .int .i64 n]) w := by kernel_rfl
theorem mLookPart (s : ByteArray) (n : Int) (w : World) : (method 453 225 (.agg #[.string s, .int .i64 n]) "loop.example/scot/impl.look").run Tryz.prog w = .ok (262, .agg #[.string s, .int .i64 n]) w := by kernel_rfl
theorem mLookIf (s : ByteArray) (n : Int) (w : World) : (method 453 226 (.agg #[.string s, .int .i64 n]) "loop.example/scot/impl.look").run Tryz.prog w = .ok (262, .agg #[.string s, .int .i64 n]) w := by kernel_rfl
theorem mLookSteps (s : ByteArray) (n : Int) (w : World) : (method 453 227 (.agg #[.string s, .int .i64 n]) "loop.example/scot/impl.look").run Tryz.prog w = .ok (262, .agg #[.string s, .int .i64 n]) w := by kernel_rfl
theorem mLookNum (s : ByteArray) (n : Int) (w : World) : (method 453 221 (.agg #[.string s, .int .i64 n]) "loop.example/scot/impl.look").run Tryz.prog w = .ok (262, .agg #[.string s, .int .i64 n]) w := by kernel_rfl
theorem mLookMeter (s : ByteArray) (n : Int) (w : World) : (method 453 222 (.agg #[.string s, .int .i64 n]) "loop.example/scot/impl.look").run Tryz.prog w = .ok (262, .agg #[.string s, .int .i64 n]) w := by kernel_rfl


/-- the part that most kinds share -/
def lookV (k : Int) : Value := .agg #[.string (wordK k), .int .i64 (kidsK k)]
theorem mLook {k : Int} (h : 1 ≤ k ∧ k ≤ 10) (w : World) : (method 453 (typeK k) (recK k) "loop.example/scot/impl.look").run Tryz.prog w = .ok (262, lookV k) w := by
  rcases cases10 h with rfl | rfl | rfl | rfl | rfl | rfl | rfl | rfl | rfl | rfl
  · exact mLookNum _ _ w
  · exact mLookMeter _ _ w
  · exact mLookPair _ _ _ w
  · exact mLookPair _ _ _ w
  · exact mLookPair _ _ _ w
  · exact mLookPart _ _ w
  · exact mLookPair _ _ _ w
  · exact mLookPair _ _ _ w
  · exact mLookIf _ _ w
  · exact mLookSteps _ _ w
theorem kindV_in {k : Int} (h : 1 ≤ k ∧ k ≤ 10) : kindV k = .iface (typeK k) (recK k) := if_pos h
theorem kindV_out {k : Int} (h : ¬ (1 ≤ k ∧ k ≤ 10)) : kindV k = .nilIface := if_neg h

/-- the kind that a word heads, or 0 -/
def opK (s : ByteArray) : Int := if wordK 3 = s then 3 else if wordK 4 = s then 4 else if wordK 5 = s then 5 else if wordK 6 = s then 6 else if wordK 7 = s then 7 else if wordK 8 = s then 8 else if wordK 9 = s then 9 else if wordK 10 = s then 10 else 0
theorem opK_hit {s : ByteArray} {n : Int} (h1 : 3 ≤ n) (h2 : n ≤ 10) (hd : ∀ j, 3 ≤ j → j < n → wordK j ≠ s) (he : wordK n = s) : opK s = n := by
  unfold opK
  by_cases e3 : n = 3
  · subst e3; rw [if_pos he]
  rw [if_neg (hd 3 (by omega) (by omega))]
  by_cases e4 : n = 4
  · subst e4; rw [if_pos he]
  rw [if_neg (hd 4 (by omega) (by omega))]
  by_cases e5 : n = 5
  · subst e5; rw [if_pos he]
  rw [if_neg (hd 5 (by omega) (by omega))]
  by_cases e6 : n = 6
  · subst e6; rw [if_pos he]
  rw [if_neg (hd 6 (by omega) (by omega))]
  by_cases e7 : n = 7
  · subst e7; rw [if_pos he]
  rw [if_neg (hd 7 (by omega) (by omega))]
  by_cases e8 : n = 8
  · subst e8; rw [if_pos he]
  rw [if_neg (hd 8 (by omega) (by omega))]
  by_cases e9 : n = 9
  · subst e9; rw [if_pos he]
  rw [if_neg (hd 9 (by omega) (by omega))]
  obtain rfl : n = 10 := by omega
  rw [if_pos he]
theorem opK_none {s : ByteArray} (hd : ∀ j, 3 ≤ j → j < 11 → wordK j ≠ s) : opK s = 0 := by
  unfold opK
  rw [if_neg (hd 3 (by omega) (by omega)), if_neg (hd 4 (by omega) (by omega)), if_neg (hd 5 (by omega) (by omega)), if_neg (hd 6 (by omega) (by omega)), if_neg (hd 7 (by omega) (by omega)), if_neg (hd 8 (by omega) (by omega)), if_neg (hd 9 (by omega) (by omega)), if_neg (hd 10 (by omega) (by omega))]

theorem ext_toList {s t : ByteArray} (h : s.toList = t.toList) : s = t := by
  rw [Lib.toList_data, Lib.toList_data] at h
  cases s; cases t
  simp only at h
  rw [Array.toList_inj.1 h]
theorem eqB {s t : ByteArray} (h : s = t) : (s.toList == t.toList) = true := by rw [h]; simp
theorem neB {s t : ByteArray} (h : s ≠ t) : (s.toList == t.toList) = false := by
  rw [beq_eq_false_iff_ne]; intro e; exact h (ext_toList e)

set_option maxRecDepth 20000 in
set_option maxHeartbeats 1000000 in
/-- impl.kindNamed -/
theorem namedI (s : ByteArray) (w : World) : Calls Tryz.prog 115 #[.string s] w fun e w' => e = .returned (.int .i64 (opK s)) ∧ Below w.heap.size w w' := by
  generalize hr : opK s = r
  have HR := hide hr; clear hr
  go_enter Tryz.func115, Tryz.ntmps115
  go_wp2
  go_loopw [3] (fun i wr => ∃ n : Int, 3 ≤ n ∧ n ≤ 11 ∧ i = .int .i64 n ∧ Hid (∀ j, 3 ≤ j → j < n → wordK j ≠ s) ∧ Hid (Below w.heap.size w wr)) (fun i _ => 11 - (intOf i).toNat)
  case atStart => exact ⟨3, by omega, by omega, rfl, hide (fun j h1 h2 => by omega), hide (Below.refl _ _)⟩
  case round =>
    obtain ⟨n, hn3, hn11, rfl, hd, hb⟩ := hrel
    by_cases hlt : n ≤ 10
    · have hk : 1 ≤ n ∧ n ≤ 10 := ⟨by omega, hlt⟩
      have m1 := mLook hk
      have fl : ∀ (w : World), (Instr.field 192 (.agg #[.string (wordK n), .int .i64 (kidsK n)]) 0).run Tryz.prog w = .ok (.string (wordK n)) w := fun w => by kernel_rfl
      go_wp2_with (fail)
      refine (kindOf _ _).mono ?_
      rintro e w1 ⟨rfl, rfl⟩
      rw [kindV_in hk]
      go_wp2_with (fail)
      refine (look _ _ _).mono ?_
      rintro e w2 ⟨rfl, hb2⟩
      have HB := hide (below_trans (unhide hb) hb2)
      clear hb hb2
      by_cases he : wordK n = s
      · have hr : r = n := (unhide HR).symm.trans (opK_hit hn3 hlt (unhide hd) he)
        subst hr
        have hx := eqB he
        clear he
        go_wp2
        go_ret
        exact ⟨rfl, unhide HB⟩
      · have hd' : Hid (∀ j, 3 ≤ j → j < n + 1 → wordK j ≠ s) := hide (fun j h1 h2 => by
          by_cases e : j < n
          · exact unhide hd j h1 e
          · obtain rfl : j = n := by omega
            exact he)
        have hx := neB he
        clear he
        go_wp2
        exact ⟨⟨n + 1, by omega, by omega, rfl, hd', HB⟩, by simp [intOf]; omega⟩
    · have hr : r = 0 := (unhide HR).symm.trans (opK_none (fun j h1 h2 => unhide hd j h1 (by omega)))
      subst hr
      go_wp2
      go_ret
      exact ⟨rfl, unhide hb⟩

/-- a word of letters -/
def lettersB (l : List UInt8) : Bool := l.all fun c => decide (97 ≤ (c.toNat : Int) ∧ (c.toNat : Int) ≤ 122)
def tierW : ByteArray := ⟨#[116, 105, 101, 114]⟩
/-- RuleName -/
def nameB (s : ByteArray) : Bool := decide (1 ≤ s.size ∧ s.size ≤ 8) && lettersB s.data.toList && decide (opK s = 0) && decide (s ≠ tierW)

theorem nameB_size {s : ByteArray} (h : ¬ (1 ≤ s.size ∧ s.size ≤ 8)) : nameB s = false := by unfold nameB; rw [decide_eq_false h]; simp
theorem nameB_letter {s : ByteArray} {k : Nat} (hk : k < s.size) (h : ¬ (97 ≤ (s[k].toNat : Int) ∧ (s[k].toNat : Int) ≤ 122)) : nameB s = false := by
  have : lettersB s.data.toList = false := by
    unfold lettersB
    rw [List.all_eq_false]
    refine ⟨s[k], ?_, ?_⟩
    · exact Array.getElem_mem_toList (xs := s.data) hk
    · rw [decide_eq_false h]; simp
  unfold nameB; rw [this]; simp
theorem nameB_rest {s : ByteArray} (h : 1 ≤ s.size ∧ s.size ≤ 8) (hl : ∀ j (hj : j < s.size), 97 ≤ (s[j].toNat : Int) ∧ (s[j].toNat : Int) ≤ 122) : nameB s = (decide (opK s = 0) && decide (s ≠ tierW)) := by
  have : lettersB s.data.toList = true := by
    unfold lettersB
    rw [List.all_eq_true]
    intro c hc
    obtain ⟨j, hj, rfl⟩ := List.getElem_of_mem hc
    exact decide_eq_true (hl j (by simpa using hj))
  unfold nameB; rw [this, decide_eq_true h]; simp

set_option maxHeartbeats 1000000 in
/-- impl.RuleName -/
theorem nameI (s : ByteArray) (w : World) (hs : s.size ≤ maxLen) : Calls Tryz.prog 92 #[.string s] w fun e w' => e = .returned (.bool (nameB s)) ∧ Below w.heap.size w w' := by
  unfold maxLen at hs
  by_cases hsz : 1 ≤ s.size ∧ s.size ≤ 8
  · obtain ⟨z1, z2⟩ := hsz
    have y1 : (1 : Int) ≤ (s.size : Int) := by omega
    have y2 : (s.size : Int) ≤ 8 := by omega
    generalize hr : nameB s = r
    have HR := hide hr; clear hr
    go_enter Tryz.func92, Tryz.ntmps92
    go_wp2
    go_loop [14] (fun i => ∃ k : Nat, k ≤ s.size ∧ i = .int .i64 k ∧ Hid (∀ j (hj : j < s.size), j < k → 97 ≤ (s[j].toNat : Int) ∧ (s[j].toNat : Int) ≤ 122)) (fun i => s.size - (intOf i).toNat)
    case atStart => exact ⟨0, Nat.zero_le _, rfl, hide (fun j hj h => by omega)⟩
    case round =>
      obtain ⟨k, hk, rfl, hd⟩ := hrel
      by_cases hlt : k < s.size
      · by_cases hc : 97 ≤ (s[k].toNat : Int) ∧ (s[k].toNat : Int) ≤ 122
        · have hd' : Hid (∀ j (hj : j < s.size), j < k + 1 → 97 ≤ (s[j].toNat : Int) ∧ (s[j].toNat : Int) ≤ 122) := hide (fun j hj h => by
            by_cases e : j < k
            · exact unhide hd j hj e
            · obtain rfl : j = k := by omega
              exact hc)
          obtain ⟨a1, a2⟩ := hc
          go_wp2
          exact ⟨⟨k + 1, by omega, by go_num, hd'⟩, by simp [intOf]; omega⟩
        · have hr : r = false := (unhide HR).symm.trans (nameB_letter hlt hc)
          subst hr
          by_cases h97 : (s[k].toNat : Int) < 97
          · go_wp2
            go_ret
            exact ⟨rfl, Below.refl _ _⟩
          · have h122 : 122 < (s[k].toNat : Int) := by omega
            go_wp2
            go_ret
            exact ⟨rfl, Below.refl _ _⟩
      · have hr : r = (decide (opK s = 0) && decide (s ≠ tierW)) := (unhide HR).symm.trans (nameB_rest ⟨z1, z2⟩ (fun j hj => unhide hd j hj (by omega)))
        by_cases ht : s = tierW
        · have e : (decide (opK s = 0) && decide (s ≠ tierW)) = false := by simp [ht]
          rw [e] at hr
          subst hr
          have hx : (!s.toList == [116, 105, 101, 114]) = false := by rw [ht, Lib.toList_data]; rfl
          clear e ht
          go_wp2_with (fail)
          go_ret
          exact ⟨rfl, Below.refl _ _⟩
        · have e : (decide (opK s = 0) && decide (s ≠ tierW)) = decide (opK s = 0) := by simp [ht]
          rw [e] at hr
          subst hr
          have hx : (!s.toList == [116, 105, 101, 114]) = true := by
            have : s.toList ≠ tierW.toList := fun h => ht (ext_toList h)
            rw [Lib.toList_data tierW] at this
            simpa [tierW] using this
          clear e ht
          go_wp2_with (fail)
          refine (namedI s _).mono ?_
          rintro e w1 ⟨rfl, hb1⟩
          have HB := hide hb1
          clear hb1
          have hd : (opK s == 0) = decide (opK s = 0) := rfl
          go_wp2
          go_ret
          exact ⟨rfl, unhide HB⟩
  · rw [nameB_size hsz]
    by_cases z1 : (s.size : Int) < 1
    · go_enter Tryz.func92, Tryz.ntmps92
      go_wp2
      go_ret
      exact ⟨rfl, Below.refl _ _⟩
    · have z2 : (8 : Int) < s.size := by omega
      go_enter Tryz.func92, Tryz.ntmps92
      go_wp2
      go_ret
      exact ⟨rfl, Below.refl _ _⟩

set_option maxRecDepth 20000 in
set_option maxHeartbeats 1000000 in
/-- spec.l2Op -/
theorem opS (s : ByteArray) (w : World) : Calls Tryz.prog 77 #[.string s] w fun e w' => e = .returned (.int .i64 (opK s)) ∧ Below w.heap.size w w' := by
  generalize hr : opK s = r
  have HR := hide hr; clear hr
  have hcell : ∀ k : Nat, k < 8 → (w.alloc (.cells #[.string (wordK 3), .string (wordK 4), .string (wordK 5), .string (wordK 6), .string (wordK 7), .string (wordK 8), .string (wordK 9), .string (wordK 10)] 9)).cell? ⟨w.heap.size, k, none⟩ = some (.string (wordK (k + 3))) := fun k hk => by
    have e1 := (MapKept.heap_alloc w (.cells #[.string (wordK 3), .string (wordK 4), .string (wordK 5), .string (wordK 6), .string (wordK 7), .string (wordK 8), .string (wordK 9), .string (wordK 10)] 9)).1
    simp only [World.cell?]
    rw [e1]
    rcases (by omega : k = 0 ∨ k = 1 ∨ k = 2 ∨ k = 3 ∨ k = 4 ∨ k = 5 ∨ k = 6 ∨ k = 7) with rfl | rfl | rfl | rfl | rfl | rfl | rfl | rfl <;> rfl
  have HCE := hide hcell
  clear hcell
  go_enter Tryz.func77, Tryz.ntmps77
  go_wp2
  go_loop [4] (fun i => ∃ k : Nat, k ≤ 8 ∧ i = .int .i64 k ∧ Hid (∀ j : Int, 3 ≤ j → j < k + 3 → wordK j ≠ s)) (fun i => 8 - (intOf i).toNat)
  case atStart => exact ⟨0, Nat.zero_le _, rfl, hide (fun j h1 h2 => by omega)⟩
  case round =>
    obtain ⟨k, hk, rfl, hd⟩ := hrel
    by_cases hlt : k < 8
    · have hc := unhide HCE k hlt
      have hc' : (w.alloc (Obj.cells #[Value.string ⟨#[97, 100, 100]⟩, Value.string ⟨#[115, 117, 98]⟩, .string ⟨#[116, 105, 109, 101, 115]⟩, .string ⟨#[112, 97, 114, 116]⟩, .string ⟨#[109, 105, 110]⟩, .string ⟨#[109, 97, 120]⟩, .string ⟨#[105, 102]⟩, .string ⟨#[115, 116, 101, 112, 115]⟩] 9)).cell? ⟨w.heap.size, k, none⟩ = some (.string (wordK (k + 3))) := hc
      clear hc
      by_cases he : wordK (k + 3) = s
      · have hr : r = k + 3 := (unhide HR).symm.trans (opK_hit (by omega) (by omega) (unhide hd) he)
        subst hr
        have hx := eqB he
        clear he
        generalize wordK (k + 3) = t at *
        go_wp2
        go_ret
        exact ⟨rfl, (Below.refl _ _).alloc (Nat.le_refl _) _⟩
      · have hd' : Hid (∀ j : Int, 3 ≤ j → j < ((k + 1 : Nat) : Int) + 3 → wordK j ≠ s) := hide (fun j h1 h2 => by
          by_cases e : j < k + 3
          · exact unhide hd j h1 e
          · obtain rfl : j = k + 3 := by omega
            exact he)
        have hx := neB he
        clear he
        generalize wordK (k + 3) = t at *
        go_wp2
        exact ⟨⟨k + 1, by omega, by go_num, hd'⟩, by simp [intOf]; omega⟩
    · have hr : r = 0 := (unhide HR).symm.trans (opK_none (fun j h1 h2 => unhide hd j h1 (by omega)))
      subst hr
      go_wp2
      go_ret
      exact ⟨rfl, (Below.refl _ _).alloc (Nat.le_refl _) _⟩

set_option maxHeartbeats 1000000 in
/-- spec.RuleName -/
theorem nameS (s : ByteArray) (w : World) (hs : s.size ≤ maxLen) : Calls Tryz.prog 49 #[.string s] w fun e w' => e = .returned (.bool (nameB s)) ∧ Below w.heap.size w w' := by
  unfold maxLen at hs
  by_cases hsz : 1 ≤ s.size ∧ s.size ≤ 8
  · obtain ⟨z1, z2⟩ := hsz
    have y1 : (1 : Int) ≤ (s.size : Int) := by omega
    have y2 : (s.size : Int) ≤ 8 := by omega
    generalize hr : nameB s = r
    have HR := hide hr; clear hr
    go_enter Tryz.func49, Tryz.ntmps49
    go_wp2
    go_loop [3] (fun i => ∃ k : Nat, k ≤ s.size ∧ i = .int .i64 k ∧ Hid (∀ j (hj : j < s.size), j < k → 97 ≤ (s[j].toNat : Int) ∧ (s[j].toNat : Int) ≤ 122)) (fun i => s.size - (intOf i).toNat)
    case atStart => exact ⟨0, Nat.zero_le _, rfl, hide (fun j hj h => by omega)⟩
    case round =>
      obtain ⟨k, hk, rfl, hd⟩ := hrel
      by_cases hlt : k < s.size
      · by_cases hc : 97 ≤ (s[k].toNat : Int) ∧ (s[k].toNat : Int) ≤ 122
        · have hd' : Hid (∀ j (hj : j < s.size), j < k + 1 → 97 ≤ (s[j].toNat : Int) ∧ (s[j].toNat : Int) ≤ 122) := hide (fun j hj h => by
            by_cases e : j < k
            · exact unhide hd j hj e
            · obtain rfl : j = k := by omega
              exact hc)
          obtain ⟨a1, a2⟩ := hc
          go_wp2
          exact ⟨⟨k + 1, by omega, by go_num, hd'⟩, by simp [intOf]; omega⟩
        · have hr : r = false := (unhide HR).symm.trans (nameB_letter hlt hc)
          subst hr
          by_cases h97 : (s[k].toNat : Int) < 97
          · go_wp2
            go_ret
            exact ⟨rfl, Below.refl _ _⟩
          · have h122 : 122 < (s[k].toNat : Int) := by omega
            go_wp2
            go_ret
            exact ⟨rfl, Below.refl _ _⟩
      · have hr : r = (decide (opK s = 0) && decide (s ≠ tierW)) := (unhide HR).symm.trans (nameB_rest ⟨z1, z2⟩ (fun j hj => unhide hd j hj (by omega)))
        go_wp2_with (fail)
        refine (opS s _).mono ?_
        rintro e w1 ⟨rfl, hb1⟩
        have HB := hide hb1
        clear hb1
        by_cases ho : opK s = 0
        · have h1 : (opK s == 0) = true := by simp [ho]
          by_cases ht : s = tierW
          · have e : (decide (opK s = 0) && decide (s ≠ tierW)) = false := by simp [ht]
            rw [e] at hr
            subst hr
            have hx : (!s.toList == [116, 105, 101, 114]) = false := by rw [ht, Lib.toList_data]; rfl
            clear e ht ho
            go_wp2
            go_ret
            exact ⟨rfl, unhide HB⟩
          · have e : (decide (opK s = 0) && decide (s ≠ tierW)) = true := by simp [ht, ho]
            rw [e] at hr
            subst hr
            have hx : (!s.toList == [116, 105, 101, 114]) = true := by
              have : s.toList ≠ tierW.toList := fun h => ht (ext_toList h)
              rw [Lib.toList_data tierW] at this
              simpa [tierW] using this
            clear e ht ho
            go_wp2
            go_ret
            exact ⟨rfl, unhide HB⟩
        · have h1 : (opK s == 0) = false := by simp [ho]
          have e : (decide (opK s = 0) && decide (s ≠ tierW)) = false := by simp [ho]
          rw [e] at hr
          subst hr
          clear e ho
          go_wp2
          go_ret
          exact ⟨rfl, unhide HB⟩
  · rw [nameB_size hsz]
    by_cases z1 : (s.size : Int) < 1
    · go_enter Tryz.func49, Tryz.ntmps49
      go_wp2
      go_ret
      exact ⟨rfl, Below.refl _ _⟩
    · have z2 : (8 : Int) < s.size := by omega
      go_enter Tryz.func49, Tryz.ntmps49
      go_wp2
      go_ret
      exact ⟨rfl, Below.refl _ _⟩

end Go.Proofs.YtnchgeiinkaefaaGreatDoor.Kinds
end

section
/-
  An expression that is right but for its kids (spec.l2Kids, spec.l2Node).
-/
namespace Go.Proofs.YtnchgeiinkaefaaGreatDoor.Rule
set_option linter.unusedVariables false
open Go.RowKit Tiers
open Kinds hiding hide unhide below_trans ext_toList

/-- all but the kids is as the kind has it -/
def fitsB (k n : Int) (m : ByteArray) (ts : List T) : Bool :=
  if k = 1 then decide (-1000000000 ≤ n ∧ n ≤ 1000000000) && decide (m.size = 0) && decide (ts.length = 0)
  else if k = 2 then nameB m && decide (n = 0) && decide (ts.length = 0)
  else if k = 6 then decide (0 ≤ n ∧ n ≤ 1000000) && decide (m.size = 0) && decide (ts.length = 0)
  else if k = 10 then rightB ts && decide (n = 0) && decide (m.size = 0)
  else decide (n = 0) && decide (m.size = 0) && decide (ts.length = 0)
/-- an expression is right, but for its kids -/
def nodeB (k n : Int) (m : ByteArray) (nk : Nat) (ts : List T) : Bool := decide (1 ≤ k ∧ k ≤ 10 ∧ (nk : Int) = kidsK k) && fitsB k n m ts

theorem kidsK_in {k : Int} (h : 0 ≤ kidsK k) : 1 ≤ k ∧ k ≤ 10 := by
  unfold kidsK at h
  split at h
  · omega
  split at h
  · omega
  split at h
  · omega
  split at h
  · omega
  · omega
theorem nodeB_kids {k n : Int} {m : ByteArray} {nk : Nat} {ts : List T} (h : (nk : Int) ≠ kidsK k) : nodeB k n m nk ts = false := by
  unfold nodeB; rw [decide_eq_false (by rintro ⟨_, _, h3⟩; exact h h3)]; rfl
theorem nodeB_fits {k n : Int} {m : ByteArray} {nk : Nat} {ts : List T} (h : (nk : Int) = kidsK k) : nodeB k n m nk ts = fitsB k n m ts := by
  have := kidsK_in (k := k) (by omega)
  unfold nodeB; rw [decide_eq_true ⟨this.1, this.2, h⟩]; rfl
theorem nameB_empty {m : ByteArray} (h : m.size = 0) : nameB m = false := nameB_size (by omega)
theorem rightB_empty {ts : List T} (h : ts.length = 0) : rightB ts = false := rightB_size (by omega)
theorem fits_tiers {k n : Int} {m : ByteArray} {ts : List T} (h : ¬ (k = 10 ↔ 0 < ts.length)) : fitsB k n m ts = false := by
  unfold fitsB
  by_cases h10 : k = 10
  · subst h10
    have : ts.length = 0 := by omega
    simp [rightB_empty this]
  · have : ¬ ts.length = 0 := by omega
    split
    · simp [this]
    split
    · simp [this]
    split
    · simp [this]
    · simp [this]
theorem fits_meter {k n : Int} {m : ByteArray} {ts : List T} (h : ¬ (k = 2 ↔ m.size ≠ 0)) : fitsB k n m ts = false := by
  unfold fitsB
  by_cases h2 : k = 2
  · subst h2
    have : m.size = 0 := by omega
    simp [nameB_empty this]
  · have : ¬ m.size = 0 := by omega
    rw [decide_eq_false this]
    simp [h2]

set_option maxHeartbeats 1000000 in
/-- spec.l2Kids -/
theorem kidsS (k : Int) (w : World) : Calls Tryz.prog 82 #[.int .i64 k] w fun e w' => e = .returned (.int .i64 (kidsK k)) ∧ w' = w := by
  by_cases h : 1 ≤ k ∧ k ≤ 10
  · rcases cases10 h with rfl | rfl | rfl | rfl | rfl | rfl | rfl | rfl | rfl | rfl
    all_goals
      clear h
      go_enter Tryz.func82, Tryz.ntmps82
      go_wp2
      go_ret
      exact ⟨rfl, rfl⟩
  · have e : kidsK k = -1 := by
      unfold kidsK
      rw [if_neg (by omega), if_neg (by omega), if_neg (by omega), if_neg (by omega)]
    rw [e]
    have n1 : (k == 1) = false := beq_eq_false_iff_ne.2 (by omega)
    have n2 : (k == 2) = false := beq_eq_false_iff_ne.2 (by omega)
    have n6 : (k == 6) = false := beq_eq_false_iff_ne.2 (by omega)
    have n9 : (k == 9) = false := beq_eq_false_iff_ne.2 (by omega)
    have n10 : (k == 10) = false := beq_eq_false_iff_ne.2 (by omega)
    clear e
    by_cases h3 : 3 ≤ k
    · have h8 : ¬ k ≤ 8 := by omega
      clear h
      go_enter Tryz.func82, Tryz.ntmps82
      go_wp2
      go_ret
      exact ⟨rfl, rfl⟩
    · clear h
      go_enter Tryz.func82, Tryz.ntmps82
      go_wp2
      go_ret
      exact ⟨rfl, rfl⟩

theorem isEmpty_yes {m : ByteArray} (h : m.size = 0) : m.toList.isEmpty = true := by
  rw [Lib.toList_data, List.isEmpty_iff]
  exact List.length_eq_zero_iff.1 (by simpa using h)
theorem isEmpty_no {m : ByteArray} (h : m.size ≠ 0) : m.toList.isEmpty = false := by
  rw [Lib.toList_data, List.isEmpty_eq_false_iff]
  exact fun e => h (by have := congrArg List.length e; simpa using this)

set_option maxHeartbeats 1000000 in
theorem nodeS_bad (k n : Int) (m : ByteArray) (ka ta : Option Addr) (nk kc tn tc : Nat) (w : World) (h1 : nk ≤ maxLen) (h2 : tn ≤ maxLen) (h : (nk : Int) ≠ kidsK k ∨ ¬ (k = 10 ↔ 0 < tn) ∨ ¬ (k = 2 ↔ m.size ≠ 0)) :
    Calls Tryz.prog 112 #[.agg #[.int .i64 k, .int .i64 n, .string m, .slice ka nk kc, .slice ta tn tc]] w fun e w' => e = .returned (.bool false) ∧ Below w.heap.size w w' := by
  unfold maxLen at h1 h2
  by_cases hn : (nk : Int) = kidsK k
  · have b1 : ((nk : Int) != kidsK k) = false := by simp [hn]
    have h' := h.resolve_left (fun e => e hn)
    clear h hn
    by_cases k10 : k = 10
    all_goals by_cases t0 : 0 < tn
    all_goals first | (have b2 : (k == 10) = true := beq_iff_eq.2 (by omega)) | (have b2 : (k == 10) = false := beq_eq_false_iff_ne.2 (by omega))
    all_goals first | (have b3 : decide (0 < tn) = true := decide_eq_true (by omega)) | (have b3 : decide (0 < tn) = false := decide_eq_false (by omega))
    all_goals by_cases k2 : k = 2
    all_goals by_cases m0 : m.size = 0
    all_goals first | (exfalso; omega) | skip
    all_goals first | (have b4 : (k == 2) = true := beq_iff_eq.2 (by omega)) | (have b4 : (k == 2) = false := beq_eq_false_iff_ne.2 (by omega))
    all_goals first | (have b5 := isEmpty_yes m0) | (have b5 := isEmpty_no m0)
    all_goals clear k10 t0 k2 m0 h'
    all_goals go_enter Tryz.func112, Tryz.ntmps112
    all_goals go_wp2
    all_goals go_quiet ((go_at_call 82; exact Calls.quiet_of_same (kidsS _ _)))
    all_goals go_wp2
    all_goals go_ret
    all_goals exact ⟨rfl, below_drewN' (below_alloc _ _) _⟩
  · have b1 : ((nk : Int) != kidsK k) = true := bne_iff_ne.2 hn
    clear h hn
    go_enter Tryz.func112, Tryz.ntmps112
    go_wp2
    go_quiet ((go_at_call 82; exact Calls.quiet_of_same (kidsS _ _)))
    go_wp2
    go_ret
    exact ⟨rfl, below_drewN' (below_alloc _ _) _⟩

set_option maxHeartbeats 2000000 in
theorem nodeS_ok (k n : Int) (m : ByteArray) (ka ta : Option Addr) (nk kc tc : Nat) (ts : List T) (w : World) (h1 : nk ≤ maxLen) (z1 : m.size ≤ maxLen) (z2 : ts.length ≤ 1048576) (hT : TR w (.slice ta ts.length tc) ts) (hn : (nk : Int) = kidsK k) (ht : k = 10 ↔ 0 < ts.length) (hm : k = 2 ↔ m.size ≠ 0) :
    Calls Tryz.prog 112 #[.agg #[.int .i64 k, .int .i64 n, .string m, .slice ka nk kc, .slice ta ts.length tc]] w fun e w' => e = .returned (.bool (fitsB k n m ts)) ∧ Below w.heap.size w w' := by
  have HT := hide hT
  clear hT
  unfold maxLen at h1
  have hk := kidsK_in (k := k) (by omega)
  rcases cases10 hk with rfl | rfl | rfl | rfl | rfl | rfl | rfl | rfl | rfl | rfl
  · -- 1
    have b3 : decide (0 < ts.length) = false := decide_eq_false (by omega)
    have m0 : m.size = 0 := by omega
    have b5 := isEmpty_yes m0
    have t0 : ts.length = 0 := by omega
    by_cases r1 : -1000000000 ≤ n
    · by_cases r2 : n ≤ 1000000000
      · have e : fitsB 1 n m ts = true := by simp [fitsB, m0, t0]; omega
        rw [e]
        clear e m0 t0 ht hm
        have b1 : (((nk : Int)) != kidsK 1) = false := by simp [hn]
        clear hn
        go_enter Tryz.func112, Tryz.ntmps112
        go_wp2
        go_quiet ((go_at_call 82; exact Calls.quiet_of_same (kidsS _ _)))
        go_wp2_with (fail)
        go_ret
        exact ⟨rfl, below_drewN' (below_alloc _ _) _⟩
      · have e : fitsB 1 n m ts = false := by simp [fitsB, m0, t0]; omega
        rw [e]
        have r3 : decide (n ≤ 1000000000) = false := decide_eq_false r2
        clear e m0 t0 ht hm
        have b1 : (((nk : Int)) != kidsK 1) = false := by simp [hn]
        clear hn
        go_enter Tryz.func112, Tryz.ntmps112
        go_wp2
        go_quiet ((go_at_call 82; exact Calls.quiet_of_same (kidsS _ _)))
        go_wp2_with (fail)
        go_ret
        exact ⟨rfl, below_drewN' (below_alloc _ _) _⟩
    · have e : fitsB 1 n m ts = false := by simp [fitsB, m0, t0]; omega
      rw [e]
      clear e m0 t0 ht hm
      have b1 : (((nk : Int)) != kidsK 1) = false := by simp [hn]
      clear hn
      go_enter Tryz.func112, Tryz.ntmps112
      go_wp2
      go_quiet ((go_at_call 82; exact Calls.quiet_of_same (kidsS _ _)))
      go_wp2_with (fail)
      go_ret
      exact ⟨rfl, below_drewN' (below_alloc _ _) _⟩
  · -- 2
    have b3 : decide (0 < ts.length) = false := decide_eq_false (by omega)
    have m0 : m.size ≠ 0 := by omega
    have b5 := isEmpty_no m0
    have t0 : ts.length = 0 := by omega
    by_cases n0 : n = 0
    · have e : fitsB 2 n m ts = nameB m := by simp [fitsB, n0, t0]
      rw [e]
      have b6 : (n == 0) = true := by simp [n0]
      clear e m0 t0 ht hm n0
      have b1 : (((nk : Int)) != kidsK 2) = false := by simp [hn]
      clear hn
      go_enter Tryz.func112, Tryz.ntmps112
      go_wp2
      go_quiet ((go_at_call 82; exact Calls.quiet_of_same (kidsS _ _)))
      go_wp2_with (fail)
      refine (nameS m _ z1).mono ?_
      rintro e w1 ⟨rfl, hb1⟩
      have HB := hide (below_trans (below_drewN' (below_alloc _ _) _) hb1)
      clear hb1
      go_wp2_with (fail)
      go_ret
      exact ⟨rfl, unhide HB⟩
    · have e : fitsB 2 n m ts = false := by simp [fitsB, n0]
      rw [e]
      have b6 : (n == 0) = false := by simp [n0]
      clear e m0 t0 ht hm n0
      have b1 : (((nk : Int)) != kidsK 2) = false := by simp [hn]
      clear hn
      go_enter Tryz.func112, Tryz.ntmps112
      go_wp2
      go_quiet ((go_at_call 82; exact Calls.quiet_of_same (kidsS _ _)))
      go_wp2_with (fail)
      go_ret
      exact ⟨rfl, below_drewN' (below_alloc _ _) _⟩
  · -- 3
    have b3 : decide (0 < ts.length) = false := decide_eq_false (by omega)
    have m0 : m.size = 0 := by omega
    have b5 := isEmpty_yes m0
    have t0 : ts.length = 0 := by omega
    have e : fitsB 3 n m ts = (n == 0) := by rw [Bool.eq_iff_iff]; simp [fitsB, m0, t0]
    rw [e]
    clear e m0 t0 ht hm
    have b1 : (((nk : Int)) != kidsK 3) = false := by simp [hn]
    clear hn
    go_enter Tryz.func112, Tryz.ntmps112
    go_wp2
    go_quiet ((go_at_call 82; exact Calls.quiet_of_same (kidsS _ _)))
    go_wp2_with (fail)
    go_ret
    exact ⟨rfl, below_drewN' (below_alloc _ _) _⟩
  · -- 4
    have b3 : decide (0 < ts.length) = false := decide_eq_false (by omega)
    have m0 : m.size = 0 := by omega
    have b5 := isEmpty_yes m0
    have t0 : ts.length = 0 := by omega
    have e : fitsB 4 n m ts = (n == 0) := by rw [Bool.eq_iff_iff]; simp [fitsB, m0, t0]
    rw [e]
    clear e m0 t0 ht hm
    have b1 : (((nk : Int)) != kidsK 4) = false := by simp [hn]
    clear hn
    go_enter Tryz.func112, Tryz.ntmps112
    go_wp2
    go_quiet ((go_at_call 82; exact Calls.quiet_of_same (kidsS _ _)))
    go_wp2_with (fail)
    go_ret
    exact ⟨rfl, below_drewN' (below_alloc _ _) _⟩
  · -- 5
    have b3 : decide (0 < ts.length) = false := decide_eq_false (by omega)
    have m0 : m.size = 0 := by omega
    have b5 := isEmpty_yes m0
    have t0 : ts.length = 0 := by omega
    have e : fitsB 5 n m ts = (n == 0) := by rw [Bool.eq_iff_iff]; simp [fitsB, m0, t0]
    rw [e]
    clear e m0 t0 ht hm
    have b1 : (((nk : Int)) != kidsK 5) = false := by simp [hn]
    clear hn
    go_enter Tryz.func112, Tryz.ntmps112
    go_wp2
    go_quiet ((go_at_call 82; exact Calls.quiet_of_same (kidsS _ _)))
    go_wp2_with (fail)
    go_ret
    exact ⟨rfl, below_drewN' (below_alloc _ _) _⟩
  · -- 6
    have b3 : decide (0 < ts.length) = false := decide_eq_false (by omega)
    have m0 : m.size = 0 := by omega
    have b5 := isEmpty_yes m0
    have t0 : ts.length = 0 := by omega
    by_cases r1 : 0 ≤ n
    · by_cases r2 : n ≤ 1000000
      · have e : fitsB 6 n m ts = true := by simp [fitsB, m0, t0]; omega
        rw [e]
        clear e m0 t0 ht hm
        have b1 : (((nk : Int)) != kidsK 6) = false := by simp [hn]
        clear hn
        go_enter Tryz.func112, Tryz.ntmps112
        go_wp2
        go_quiet ((go_at_call 82; exact Calls.quiet_of_same (kidsS _ _)))
        go_wp2_with (fail)
        go_ret
        exact ⟨rfl, below_drewN' (below_alloc _ _) _⟩
      · have e : fitsB 6 n m ts = false := by simp [fitsB, m0, t0]; omega
        rw [e]
        have r3 : decide (n ≤ 1000000) = false := decide_eq_false r2
        clear e m0 t0 ht hm
        have b1 : (((nk : Int)) != kidsK 6) = false := by simp [hn]
        clear hn
        go_enter Tryz.func112, Tryz.ntmps112
        go_wp2
        go_quiet ((go_at_call 82; exact Calls.quiet_of_same (kidsS _ _)))
        go_wp2_with (fail)
        go_ret
        exact ⟨rfl, below_drewN' (below_alloc _ _) _⟩
    · have e : fitsB 6 n m ts = false := by simp [fitsB, m0, t0]; omega
      rw [e]
      clear e m0 t0 ht hm
      have b1 : (((nk : Int)) != kidsK 6) = false := by simp [hn]
      clear hn
      go_enter Tryz.func112, Tryz.ntmps112
      go_wp2
      go_quiet ((go_at_call 82; exact Calls.quiet_of_same (kidsS _ _)))
      go_wp2_with (fail)
      go_ret
      exact ⟨rfl, below_drewN' (below_alloc _ _) _⟩
  · -- 7
    have b3 : decide (0 < ts.length) = false := decide_eq_false (by omega)
    have m0 : m.size = 0 := by omega
    have b5 := isEmpty_yes m0
    have t0 : ts.length = 0 := by omega
    have e : fitsB 7 n m ts = (n == 0) := by rw [Bool.eq_iff_iff]; simp [fitsB, m0, t0]
    rw [e]
    clear e m0 t0 ht hm
    have b1 : (((nk : Int)) != kidsK 7) = false := by simp [hn]
    clear hn
    go_enter Tryz.func112, Tryz.ntmps112
    go_wp2
    go_quiet ((go_at_call 82; exact Calls.quiet_of_same (kidsS _ _)))
    go_wp2_with (fail)
    go_ret
    exact ⟨rfl, below_drewN' (below_alloc _ _) _⟩
  · -- 8
    have b3 : decide (0 < ts.length) = false := decide_eq_false (by omega)
    have m0 : m.size = 0 := by omega
    have b5 := isEmpty_yes m0
    have t0 : ts.length = 0 := by omega
    have e : fitsB 8 n m ts = (n == 0) := by rw [Bool.eq_iff_iff]; simp [fitsB, m0, t0]
    rw [e]
    clear e m0 t0 ht hm
    have b1 : (((nk : Int)) != kidsK 8) = false := by simp [hn]
    clear hn
    go_enter Tryz.func112, Tryz.ntmps112
    go_wp2
    go_quiet ((go_at_call 82; exact Calls.quiet_of_same (kidsS _ _)))
    go_wp2_with (fail)
    go_ret
    exact ⟨rfl, below_drewN' (below_alloc _ _) _⟩
  · -- 9
    have b3 : decide (0 < ts.length) = false := decide_eq_false (by omega)
    have m0 : m.size = 0 := by omega
    have b5 := isEmpty_yes m0
    have t0 : ts.length = 0 := by omega
    have e : fitsB 9 n m ts = (n == 0) := by rw [Bool.eq_iff_iff]; simp [fitsB, m0, t0]
    rw [e]
    clear e m0 t0 ht hm
    have b1 : (((nk : Int)) != kidsK 9) = false := by simp [hn]
    clear hn
    go_enter Tryz.func112, Tryz.ntmps112
    go_wp2
    go_quiet ((go_at_call 82; exact Calls.quiet_of_same (kidsS _ _)))
    go_wp2_with (fail)
    go_ret
    exact ⟨rfl, below_drewN' (below_alloc _ _) _⟩
  · -- 10
    have b3 : decide (0 < ts.length) = true := decide_eq_true (by omega)
    have m0 : m.size = 0 := by omega
    have b5 := isEmpty_yes m0
    by_cases n0 : n = 0
    · have e : fitsB 10 n m ts = rightB ts := by simp [fitsB, n0, m0]
      rw [e]
      have b6 : (n == 0) = true := by simp [n0]
      clear e m0 ht hm n0
      have b1 : (((nk : Int)) != kidsK 10) = false := by simp [hn]
      clear hn
      go_enter Tryz.func112, Tryz.ntmps112
      go_wp2
      go_quiet ((go_at_call 82; exact Calls.quiet_of_same (kidsS _ _)))
      go_wp2_with (fail)
      refine (rightS _ ts _ ((unhide HT).kept (below_drewN' (below_alloc _ _) _)) z2).mono ?_
      rintro e w1 ⟨rfl, hb1⟩
      have HB := hide (below_trans (below_drewN' (below_alloc _ _) _) hb1)
      clear hb1
      go_wp2_with (fail)
      go_ret
      exact ⟨rfl, unhide HB⟩
    · have e : fitsB 10 n m ts = false := by simp [fitsB, n0]
      rw [e]
      have b6 : (n == 0) = false := by simp [n0]
      clear e m0 ht hm n0
      have b1 : (((nk : Int)) != kidsK 10) = false := by simp [hn]
      clear hn
      go_enter Tryz.func112, Tryz.ntmps112
      go_wp2
      go_quiet ((go_at_call 82; exact Calls.quiet_of_same (kidsS _ _)))
      go_wp2_with (fail)
      go_ret
      exact ⟨rfl, below_drewN' (below_alloc _ _) _⟩

/-- spec.l2Node -/
theorem nodeS (k n : Int) (m : ByteArray) (ka ta : Option Addr) (nk kc tc : Nat) (ts : List T) (w : World) (h1 : nk ≤ maxLen) (z1 : m.size ≤ maxLen) (z2 : ts.length ≤ 1048576) (hT : TR w (.slice ta ts.length tc) ts) :
    Calls Tryz.prog 112 #[.agg #[.int .i64 k, .int .i64 n, .string m, .slice ka nk kc, .slice ta ts.length tc]] w fun e w' => e = .returned (.bool (nodeB k n m nk ts)) ∧ Below w.heap.size w w' := by
  by_cases hn : (nk : Int) = kidsK k
  · rw [nodeB_fits hn]
    by_cases ht : k = 10 ↔ 0 < ts.length
    · by_cases hm : k = 2 ↔ m.size ≠ 0
      · exact nodeS_ok k n m ka ta nk kc tc ts w h1 z1 z2 hT hn ht hm
      · rw [fits_meter hm]
        exact nodeS_bad k n m ka ta nk kc _ tc w h1 (by unfold maxLen; omega) (.inr (.inr hm))
    · rw [fits_tiers ht]
      exact nodeS_bad k n m ka ta nk kc _ tc w h1 (by unfold maxLen; omega) (.inr (.inl ht))
  · rw [nodeB_kids hn]
    exact nodeS_bad k n m ka ta nk kc _ tc w h1 (by unfold maxLen; omega) (.inl hn)
end Go.Proofs.YtnchgeiinkaefaaGreatDoor.Rule
end

section
/-
  spec.l2Size, spec.RuleOk.
-/
namespace Go.Proofs.YtnchgeiinkaefaaGreatDoor.Rule
set_option linter.unusedVariables false
open Go.RowKit Tiers
open Kinds hiding hide unhide below_trans ext_toList

mutual
/-- all are right -/
def allB : Ex → Bool | .mk k n m ks ts => nodeB k n m ks.length ts && allL ks
def allL : List Ex → Bool | [] => true | e :: es => allB e && allL es
end
/-- RuleOk -/
def okE (e : Ex) : Bool := allB e && decide (cnt e ≤ 40) && decide (dep e ≤ 8)
def nodeE (e : Ex) : Bool := nodeB e.kind e.num e.meter e.kids.length e.tiers
theorem allB_eq (e : Ex) : allB e = (nodeE e && allL e.kids) := by cases e; rfl
theorem allL_append : ∀ a b : List Ex, allL (a ++ b) = (allL a && allL b)
  | [], b => rfl
  | e :: es, b => by rw [List.cons_append, allL, allL, allL_append es b, Bool.and_assoc]
theorem allL_take {l : List Ex} {k : Nat} (h : k < l.length) : allL (l.take (k + 1)) = (allL (l.take k) && allB (l.getD k E0)) := by
  rw [take_at h, allL_append]; simp [allL]
theorem allL_false {l : List Ex} {k : Nat} (h : allL (l.take k) = false) : allL l = false := by
  have h' := allL_append (l.take k) (l.drop k)
  rw [List.take_append_drop, h] at h'
  simpa using h'

/-- what l2Size tells -/
def SizeOk (e : Ex) (n dd : Int) (ok : Bool) : Prop := 1 ≤ n ∧ n ≤ cnt e ∧ 1 ≤ dd ∧ dd ≤ dep e ∧ (ok = true → n = cnt e ∧ dd = dep e ∧ allB e = true) ∧ (ok = false → allB e = false ∨ 40 < cnt e)
/-- .. behind k kids -/
def SizeAt (e : Ex) (k : Nat) (n dd : Int) (ok : Bool) : Prop := 1 ≤ n ∧ n ≤ 1 + cntL (e.kids.take k) ∧ 0 ≤ dd ∧ dd ≤ depL (e.kids.take k) ∧
  (ok = true → n = 1 + cntL (e.kids.take k) ∧ dd = depL (e.kids.take k) ∧ nodeE e = true ∧ allL (e.kids.take k) = true) ∧ (ok = false → nodeE e = false ∨ allL (e.kids.take k) = false ∨ 40 < 1 + cntL (e.kids.take k))
theorem SizeAt.start (e : Ex) : SizeAt e 0 1 0 (nodeE e) := by
  refine ⟨by omega, by simp [cntL], by omega, by simp, fun h => ⟨by simp [cntL], by simp [depL], h, rfl⟩, fun h => .inl h⟩
theorem SizeAt.step {e : Ex} {k : Nat} {n dd a b : Int} {c : Bool} (h : SizeAt e k n dd true) (hk : k < e.kids.length) (hs : SizeOk (e.kids.getD k E0) a b c) :
    SizeAt e (k + 1) (n + a) (if dd < b then b else dd) (c && decide (n + a ≤ 40)) := by
  obtain ⟨h1, h2, h3, h4, h5, _⟩ := h
  obtain ⟨e1, e2, e3, e4⟩ := h5 rfl
  obtain ⟨s1, s2, s3, s4, s5, s6⟩ := hs
  have c1 := cntL_take hk
  have d1 := depL_take hk
  have a1 := allL_take hk
  unfold SizeAt
  rw [c1, d1, a1]
  refine ⟨by omega, by omega, by split <;> omega, by split <;> omega, fun h => ?_, fun h => ?_⟩
  · simp only [Bool.and_eq_true, decide_eq_true_eq] at h
    obtain ⟨t1, t2, t3⟩ := s5 h.1
    refine ⟨by omega, by split <;> omega, e3, by rw [e4, t3]; rfl⟩
  · cases hc : c
    · rcases s6 hc with s | s
      · exact .inr (.inl (by rw [s]; simp))
      · exact .inr (.inr (by omega))
    · rw [hc] at h
      simp only [Bool.true_and, decide_eq_false_iff_not] at h
      exact .inr (.inr (by omega))
theorem SizeAt.done {e : Ex} {k : Nat} {n dd : Int} {ok : Bool} (h : SizeAt e k n dd ok) (hk : ok = false ∨ e.kids.length ≤ k) : SizeOk e n (dd + 1) ok := by
  obtain ⟨h1, h2, h3, h4, h5, h6⟩ := h
  have c1 := cntL_le e.kids k
  have d1 := depL_le e.kids k
  refine ⟨h1, by rw [cnt_eq]; omega, by omega, by rw [dep_eq]; omega, fun h => ?_, fun h => ?_⟩
  · have hk' : e.kids.length ≤ k := hk.resolve_left (by rw [h]; simp)
    obtain ⟨e1, e2, e3, e4⟩ := h5 h
    rw [List.take_of_length_le hk'] at e1 e2 e4
    rw [cnt_eq, dep_eq, allB_eq, e3, e4]
    exact ⟨by omega, by omega, rfl⟩
  · rw [cnt_eq, allB_eq]
    rcases h6 h with s | s | s
    · exact .inl (by rw [s]; rfl)
    · exact .inl (by rw [allL_false s]; simp)
    · exact .inr (by omega)

def SizeE (d : Nat) : Prop := ∀ (lo hi : Nat) (v : Value) (e : Ex) (w : World), EV lo hi w d v e → hi ≤ w.heap.size → wt e ≤ 1048576 →
  Calls Tryz.prog 86 #[v] w fun x w' => ∃ (n dd : Int) (ok : Bool), x = .returned (.tuple #[.int .i64 n, .int .i64 dd, .bool ok]) ∧ SizeOk e n dd ok ∧ Below w.heap.size w w'

set_option maxHeartbeats 1600000 in
theorem sizeE_nil (lo hi : Nat) (a : Option Addr) (c : Nat) (tv : Value) (e : Ex) (w : World) (hk : e.kids = []) (hz : e.meter.size ≤ maxLen ∧ e.tiers.length ≤ maxLen) (ht : TL lo hi w tv e.tiers) (hhi : hi ≤ w.heap.size) (hw : wt e ≤ 1048576) :
    Calls Tryz.prog 86 #[.agg #[.int .i64 e.kind, .int .i64 e.num, .string e.meter, .slice a 0 c, tv]] w fun x w' => ∃ (n dd : Int) (ok : Bool), x = .returned (.tuple #[.int .i64 n, .int .i64 dd, .bool ok]) ∧ SizeOk e n dd ok ∧ Below w.heap.size w w' := by
  have hS : SizeOk e 1 (0 + 1) (nodeE e) := (SizeAt.start e).done (.inr (by rw [hk]; simp))
  have HS := hide hS
  have hnode : nodeE e = nodeB e.kind e.num e.meter 0 e.tiers := by unfold nodeE; rw [hk]; rfl
  have ht2 : e.tiers.length ≤ 1048576 := by rw [wt_eq] at hw; omega
  obtain ⟨ta, tc, rfl⟩ : ∃ a c, tv = .slice a e.tiers.length c := by
    rcases ht with ⟨h, a, c, rfl⟩ | ⟨b, o, cap, rfl, _⟩
    · rw [h]; exact ⟨_, _, rfl⟩
    · exact ⟨_, _, rfl⟩
  have HN := hide (nodeS e.kind e.num e.meter a ta 0 c tc e.tiers (w.alloc (.cells #[.int .i64 e.kind, .int .i64 e.num, .string e.meter, .slice a 0 c, .slice ta e.tiers.length tc] 77)) (by unfold maxLen; omega) hz.1 ht2 (ht.kept (same_below (below_alloc _ _) hhi)).toTR)
  rw [← hnode] at HN
  clear hnode hS ht hz hk
  generalize e.kind = k at *
  generalize e.num = q at *
  generalize e.meter = m at *
  generalize e.tiers.length = tn at *
  generalize nodeE e = nd at *
  go_enter Tryz.func86, Tryz.ntmps86
  go_wp2_with (fail)
  refine (unhide HN).mono ?_
  rintro x w1 ⟨rfl, hb1⟩
  obtain ⟨c0, c1, c2, c3, c4, hB⟩ := box5 _ _ _ _ _ _ _ _ hb1
  have HB := hide hB
  clear hb1 hB HN
  go_wp2_with (fail)
  refine wp_loop_rounds 1 ?_
  rw [rounds_succ]
  go_wp2_with (fail)
  go_ret3
  exact ⟨_, _, _, rfl, unhide HS, unhide HB⟩

set_option maxHeartbeats 1600000 in
theorem sizeE_row {d : Nat} (H : SizeE d) (lo hi b o cap : Nat) (tv : Value) (e : Ex) (w : World) (hl : e.kids.length ≤ maxLen) (k1 : lo ≤ b) (k2 : b < hi)
    (hc : ∀ i, i < e.kids.length → ∃ kv tv, (w.cell? ⟨b, o + i * 5, none⟩ = some (.int .i64 (e.kids.getD i E0).kind) ∧ w.cell? ⟨b, o + i * 5 + 1, none⟩ = some (.int .i64 (e.kids.getD i E0).num) ∧ w.cell? ⟨b, o + i * 5 + 2, none⟩ = some (.string (e.kids.getD i E0).meter) ∧
        w.cell? ⟨b, o + i * 5 + 3, none⟩ = some kv ∧ w.cell? ⟨b, o + i * 5 + 4, none⟩ = some tv) ∧
        ((e.kids.getD i E0).meter.size ≤ maxLen ∧ (e.kids.getD i E0).tiers.length ≤ maxLen) ∧ ES lo hi w d kv (e.kids.getD i E0).kids ∧ TL lo hi w tv (e.kids.getD i E0).tiers)
    (hz : e.meter.size ≤ maxLen ∧ e.tiers.length ≤ maxLen) (ht : TL lo hi w tv e.tiers) (hhi : hi ≤ w.heap.size) (hw : wt e ≤ 1048576) :
    Calls Tryz.prog 86 #[.agg #[.int .i64 e.kind, .int .i64 e.num, .string e.meter, .slice (some ⟨b, o, none⟩) e.kids.length cap, tv]] w fun x w' => ∃ (n dd : Int) (ok : Bool), x = .returned (.tuple #[.int .i64 n, .int .i64 dd, .bool ok]) ∧ SizeOk e n dd ok ∧ Below w.heap.size w w' := by
  have hcw := cnt_wt e
  have hdc := dep_cnt e
  have hww := wt_eq e
  have ht2 : e.tiers.length ≤ 1048576 := by omega
  have hkl := wtL_len e.kids
  have HWK : Hid (∀ k, k < e.kids.length → wt (e.kids.getD k E0) ≤ 1048576) := hide (fun k hk => by have := wt_at hk; omega)
  have HC := hide hc
  have HH := hide H
  have HS0 : Hid (SizeAt e 0 1 0 (nodeE e)) := hide (SizeAt.start e)
  have HST : Hid (∀ (k : Nat) (n dd a b : Int) (c : Bool), SizeAt e k n dd true → k < e.kids.length → SizeOk (e.kids.getD k E0) a b c → SizeAt e (k + 1) (n + a) (if dd < b then b else dd) (c && decide (n + a ≤ 40))) := hide (fun k n dd a b c h hk hs => h.step hk hs)
  have HBD : Hid (∀ (k : Nat) (n dd : Int) (ok : Bool), SizeAt e k n dd ok → 1 ≤ n ∧ n ≤ 1048577 ∧ 0 ≤ dd ∧ dd ≤ 1048577) := hide (fun k n dd ok h => by
    have c1 := cntL_le e.kids k
    have d1 := depL_le e.kids k
    rw [cnt_eq] at hcw hdc
    rw [dep_eq] at hdc
    exact ⟨h.1, by have := h.2.1; omega, h.2.2.1, by have := h.2.2.2.1; omega⟩)
  have HBK : Hid (∀ (k : Nat) (a b : Int) (c : Bool), k < e.kids.length → SizeOk (e.kids.getD k E0) a b c → 1 ≤ a ∧ a ≤ 1048577 ∧ 1 ≤ b ∧ b ≤ 1048577) := hide (fun k a b c hk h => by
    have c1 := cnt_wt (e.kids.getD k E0)
    have d1 := dep_cnt (e.kids.getD k E0)
    have := unhide HWK k hk
    exact ⟨h.1, by have := h.2.1; omega, h.2.2.1, by have := h.2.2.2.1; omega⟩)
  have HDN : Hid (∀ (k : Nat) (n dd : Int) (ok : Bool), SizeAt e k n dd ok → ok = false ∨ e.kids.length ≤ k → SizeOk e n (dd + 1) ok) := hide (fun k n dd ok h hk => h.done hk)
  obtain ⟨ta, tc, rfl⟩ : ∃ a c, tv = .slice a e.tiers.length c := by
    rcases ht with ⟨h, a, c, rfl⟩ | ⟨b, o, cap, rfl, _⟩
    · rw [h]; exact ⟨_, _, rfl⟩
    · exact ⟨_, _, rfl⟩
  have HN := hide (nodeS e.kind e.num e.meter (some ⟨b, o, none⟩) ta e.kids.length cap tc e.tiers (w.alloc (.cells #[.int .i64 e.kind, .int .i64 e.num, .string e.meter, .slice (some ⟨b, o, none⟩) e.kids.length cap, .slice ta e.tiers.length tc] 77)) hl hz.1 ht2 (ht.kept (same_below (below_alloc _ _) hhi)).toTR)
  have hnode : nodeB e.kind e.num e.meter e.kids.length e.tiers = nodeE e := rfl
  rw [hnode] at HN
  have hbw : b < w.heap.size := by omega
  clear hnode ht hz hc H hcw hdc hww
  unfold maxLen at hl
  generalize e.kind = k at *
  generalize e.num = q at *
  generalize e.meter = m at *
  generalize e.tiers.length = tn at *
  generalize nodeE e = nd at *
  go_enter Tryz.func86, Tryz.ntmps86
  go_wp2_with (fail)
  refine (unhide HN).mono ?_
  rintro x w1 ⟨rfl, hb1⟩
  obtain ⟨_, _, _, c3, _, hB⟩ := box5 _ _ _ _ _ _ _ _ hb1
  have hsz : w.heap.size < w1.heap.size := by have := hb1.size; simp at this; omega
  have HB := hide hB
  clear hb1 hB HN
  go_wp2_with (fail)
  go_loopw [5, 6, 7, 8] (fun n d t i wr => ∃ (k : Nat) (nn dd : Int) (ok : Bool), k ≤ e.kids.length ∧ i = .int .i64 k ∧ n = .int .i64 nn ∧ d = .int .i64 dd ∧ t = .bool ok ∧ Hid (SizeAt e k nn dd ok) ∧ Hid (Below w1.heap.size w1 wr)) (fun _ _ _ i _ => e.kids.length - (intOf i).toNat)
  case atStart => exact ⟨0, 1, 0, nd, Nat.zero_le _, rfl, rfl, rfl, rfl, HS0, hide (Below.refl _ _)⟩
  case round =>
    obtain ⟨k, nn, dd, ok, hk, rfl, rfl, rfl, rfl, hS, hb⟩ := hrel
    obtain ⟨n1, n2, d1, d2⟩ := unhide HBD _ _ _ _ (unhide hS)
    have c3' := ((unhide hb).cell (p := ⟨w.heap.size, 3, none⟩) hsz).trans c3
    clear c3
    have HBW : Hid (Below w.heap.size w wr) := hide (below_trans (unhide HB) (unhide hb))
    by_cases hlt : k < e.kids.length
    · cases ok
      · have HD := hide (unhide HDN _ _ _ _ (unhide hS) (.inl rfl))
        go_wp2_with (fail)
        go_ret3
        exact ⟨_, _, _, rfl, unhide HD, unhide HBW⟩
      · obtain ⟨kv, tv, ⟨e0', e1', e2', e3', e4'⟩, hz, hkk, htt⟩ := unhide HC k hlt
        have e0 := ((unhide HBW).cell (p := ⟨b, o + k * 5, none⟩) hbw).trans e0'
        have e1 := ((unhide HBW).cell (p := ⟨b, o + k * 5 + 1, none⟩) hbw).trans e1'
        have e2 := ((unhide HBW).cell (p := ⟨b, o + k * 5 + 2, none⟩) hbw).trans e2'
        have e3 := ((unhide HBW).cell (p := ⟨b, o + k * 5 + 3, none⟩) hbw).trans e3'
        have e4 := ((unhide HBW).cell (p := ⟨b, o + k * 5 + 4, none⟩) hbw).trans e4'
        have HE : Hid (EV lo hi wr d (.agg #[.int .i64 (e.kids.getD k E0).kind, .int .i64 (e.kids.getD k E0).num, .string (e.kids.getD k E0).meter, kv, tv]) (e.kids.getD k E0)) := hide ⟨kv, tv, rfl, hz, hkk.kept (same_below (unhide HBW) hhi), htt.kept (same_below (unhide HBW) hhi)⟩
        have HW' := hide (unhide HWK k hlt)
        have HSK := hide (fun a b c => unhide HST k nn dd a b c (unhide hS) hlt)
        have HBK' := hide (fun a b c => unhide HBK k a b c hlt)
        clear e0' e1' e2' e3' e4' hz hkk htt HST HBK HDN
        generalize e.kids.getD k E0 = f at *
        generalize f.kind = fk at *
        generalize f.num = fn at *
        generalize f.meter = fm at *
        go_wp2_with (fail)
        refine (unhide HH lo hi _ f wr (unhide HE) (Nat.le_trans hhi (unhide HBW).size) (unhide HW')).mono ?_
        rintro x w2 ⟨a, b', c, rfl, hs, hb2⟩
        obtain ⟨a1, a2, b1, b2⟩ := unhide HBK' a b' c hs
        have HS2 := hide (unhide HSK a b' c hs)
        have HB2 : Hid (Below w1.heap.size w1 w2) := hide (below_trans (unhide hb) hb2)
        clear hs hb2 hb HSK HBK' HE hS e0 e1 e2 e3 e4 c3'
        by_cases hdb : dd < b'
        · rw [if_pos hdb] at HS2
          cases c
          · go_wp2_with (fail)
            exact ⟨⟨k + 1, nn + a, b', false, by omega, by go_num, rfl, rfl, rfl, HS2, HB2⟩, by simp [intOf]; omega⟩
          · by_cases h40 : nn + a ≤ 40
            · have h40' : decide (nn + a ≤ 40) = true := decide_eq_true h40
              rw [h40'] at HS2
              go_wp2_with (fail)
              exact ⟨⟨k + 1, nn + a, b', true, by omega, by go_num, rfl, rfl, rfl, HS2, HB2⟩, by simp [intOf]; omega⟩
            · have h40' : decide (nn + a ≤ 40) = false := decide_eq_false h40
              rw [h40'] at HS2
              go_wp2_with (fail)
              exact ⟨⟨k + 1, nn + a, b', false, by omega, by go_num, rfl, rfl, rfl, HS2, HB2⟩, by simp [intOf]; omega⟩
        · rw [if_neg hdb] at HS2
          cases c
          · go_wp2_with (fail)
            exact ⟨⟨k + 1, nn + a, dd, false, by omega, by go_num, rfl, rfl, rfl, HS2, HB2⟩, by simp [intOf]; omega⟩
          · by_cases h40 : nn + a ≤ 40
            · have h40' : decide (nn + a ≤ 40) = true := decide_eq_true h40
              rw [h40'] at HS2
              go_wp2_with (fail)
              exact ⟨⟨k + 1, nn + a, dd, true, by omega, by go_num, rfl, rfl, rfl, HS2, HB2⟩, by simp [intOf]; omega⟩
            · have h40' : decide (nn + a ≤ 40) = false := decide_eq_false h40
              rw [h40'] at HS2
              go_wp2_with (fail)
              exact ⟨⟨k + 1, nn + a, dd, false, by omega, by go_num, rfl, rfl, rfl, HS2, HB2⟩, by simp [intOf]; omega⟩
    · have HD := hide (unhide HDN _ _ _ _ (unhide hS) (.inr (by omega)))
      go_wp2_with (fail)
      go_ret3
      exact ⟨_, _, _, rfl, unhide HD, unhide HBW⟩

theorem sizeE_all : ∀ d, SizeE d
  | 0 => by
    rintro lo hi v e w ⟨kv, tv, rfl, hz, ⟨hk, a, c, rfl⟩, ht⟩ hhi hw
    exact sizeE_nil lo hi a c tv e w hk hz ht hhi hw
  | d + 1 => by
    rintro lo hi v e w ⟨kv, tv, rfl, hz, hk, ht⟩ hhi hw
    rcases hk with ⟨hk, a, c, rfl⟩ | ⟨b, o, cap, rfl, hl, k1, k2, hc⟩
    · exact sizeE_nil lo hi a c tv e w hk hz ht hhi hw
    · exact sizeE_row (sizeE_all d) lo hi b o cap tv e w hl k1 k2 hc hz ht hhi hw

theorem okE_of {e : Ex} {n dd : Int} {ok : Bool} (h : SizeOk e n dd ok) : okE e = (ok && decide (n ≤ 40) && decide (dd ≤ 8)) := by
  obtain ⟨_, _, _, _, h5, h6⟩ := h
  unfold okE
  cases ok
  · rcases h6 rfl with h | h
    · rw [h]; rfl
    · rw [decide_eq_false (by omega)]; simp
  · obtain ⟨e1, e2, e3⟩ := h5 rfl
    rw [e3, e1, e2]
    congr 1
    · congr 1
      rw [Bool.eq_iff_iff]; simp; omega
    · rw [Bool.eq_iff_iff]; simp; omega

/-- spec.RuleOk -/
theorem okS (d lo hi : Nat) (v : Value) (e : Ex) (w : World) (h : EV lo hi w d v e) (hhi : hi ≤ w.heap.size) (hw : wt e ≤ 1048576) :
    Calls Tryz.prog 53 #[v] w fun x w' => x = .returned (.bool (okE e)) ∧ Below w.heap.size w w' := by
  obtain ⟨kv, tv, rfl, hz, hk, ht⟩ := h
  have HE : Hid (EV lo hi (w.alloc (.cells #[.int .i64 e.kind, .int .i64 e.num, .string e.meter, kv, tv] 77)) d (.agg #[.int .i64 e.kind, .int .i64 e.num, .string e.meter, kv, tv]) e) := hide ⟨kv, tv, rfl, hz, hk.kept (same_below (below_alloc _ _) hhi), ht.kept (same_below (below_alloc _ _) hhi)⟩
  have HO : Hid (∀ n dd ok, SizeOk e n dd ok → okE e = (ok && decide (n ≤ 40) && decide (dd ≤ 8))) := hide (fun n dd ok h => okE_of h)
  clear hz hk ht
  generalize okE e = r at *
  generalize e.kind = ek at *
  generalize e.num = en at *
  generalize e.meter = em at *
  go_enter Tryz.func53, Tryz.ntmps53
  go_wp2_with (fail)
  refine (sizeE_all d lo hi _ e _ (unhide HE) (by simp; omega) hw).mono ?_
  rintro x w1 ⟨n, dd, ok, rfl, hs, hb1⟩
  have hr := unhide HO n dd ok hs
  have HB := hide ((below_alloc w (.cells #[.int .i64 ek, .int .i64 en, .string em, kv, tv] 77)).trans (hb1.mono (by simp)))
  clear hb1 HO hs HE
  cases ok
  · simp only [Bool.false_and] at hr
    subst hr
    go_wp2_with (fail)
    go_ret
    exact ⟨rfl, unhide HB⟩
  · by_cases h40 : n ≤ 40
    · by_cases h8 : dd ≤ 8
      · rw [decide_eq_true h40, decide_eq_true h8] at hr
        simp only [Bool.true_and] at hr
        subst hr
        go_wp2_with (fail)
        go_ret
        exact ⟨rfl, unhide HB⟩
      · rw [decide_eq_true h40, decide_eq_false h8] at hr
        simp only [Bool.and_false] at hr
        subst hr
        have h8' : decide (dd ≤ 8) = false := decide_eq_false h8
        go_wp2_with (fail)
        go_ret
        exact ⟨rfl, unhide HB⟩
    · rw [decide_eq_false h40] at hr
      simp only [Bool.and_false, Bool.false_and] at hr
      subst hr
      have h40' : decide (n ≤ 40) = false := decide_eq_false h40
      go_wp2_with (fail)
      go_ret
      exact ⟨rfl, unhide HB⟩
end Go.Proofs.YtnchgeiinkaefaaGreatDoor.Rule
end
