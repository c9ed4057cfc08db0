/-
  Texts of this proof laid together, in build order; each says of itself what it holds.
-/
import Derived.Test.YtnchgeiinkaefaaGreatDoorProg
import Derived.WalkKit
import Derived.WalkLawsBesides
import Derived.Below
import Derived.WalkMore
import Derived.Outline
import Derived.Laws.EntriesVeiled
import Derived.Lib.Strings
import Derived.Deep.OwnRows
import Derived.Test.YtnchgeiinkaefaaGreatDoorZaa
import Derived.Deep.QuietTactic
import Derived.BigQuiet
import Derived.Deep.AppendLies
import Derived.Deep.RegionHeldLaw
import Derived.OwnWalk
import Derived.Deep.RegionHeld3
section
/-
  Kinds of expressions: what impl.kindOf hands out, and what the methods behind it answer.
-/
namespace Go.Proofs.YtnchgeiinkaefaaGreatDoor.Kinds
set_option linter.unusedVariables false
open Go.RowKit

theorem hide {p : Prop} (h : p) : Hid p := h
theorem unhide {p : Prop} (h : Hid p) : p := h
theorem below_trans {w w1 w2 : World} (h : Below w.heap.size w w1) (k : Below w1.heap.size w1 w2) : Below w.heap.size w w2 := h.trans (k.mono h.size)

/-- the word of a kind -/
def wordK (k : Int) : ByteArray :=
  if k = 3 then ⟨#[97, 100, 100]⟩ else if k = 4 then ⟨#[115, 117, 98]⟩ else if k = 5 then ⟨#[116, 105, 109, 101, 115]⟩ else if k = 6 then ⟨#[112, 97, 114, 116]⟩
  else if k = 7 then ⟨#[109, 105, 110]⟩ else if k = 8 then ⟨#[109, 97, 120]⟩ else if k = 9 then ⟨#[105, 102]⟩ else if k = 10 then ⟨#[115, 116, 101, 112, 115]⟩ else ⟨#[]⟩
/-- how many kids a kind has -/
def kidsK (k : Int) : Int := if k = 1 ∨ k = 2 then 0 else if k = 6 ∨ k = 10 then 1 else if k = 9 then 3 else if 3 ≤ k ∧ k ≤ 8 then 2 else -1
/-- what it is behind the interface -/
def typeK (k : Int) : TypeId := if k = 1 then 221 else if k = 2 then 222 else if k = 6 then 225 else if k = 9 then 226 else if k = 10 then 227 else 224
/-- what a pair is reckoned by -/
def funK (k : Int) : Nat := if k = 3 then 136 else if k = 4 then 137 else if k = 5 then 138 else if k = 7 then 139 else 140
def isPair (k : Int) : Bool := decide (k = 3 ∨ k = 4 ∨ k = 5 ∨ k = 7 ∨ k = 8)
def recK (k : Int) : Value := if isPair k = true then .agg #[.string (wordK k), .int .i64 (kidsK k), .func (.func (funK k)) #[] #[]] else .agg #[.string (wordK k), .int .i64 (kidsK k)]
/-- what kindOf answers -/
def kindV (k : Int) : Value := if 1 ≤ k ∧ k ≤ 10 then .iface (typeK k) (recK k) else .nilIface

theorem cases10 {k : Int} (h : 1 ≤ k ∧ k ≤ 10) : k = 1 ∨ k = 2 ∨ k = 3 ∨ k = 4 ∨ k = 5 ∨ k = 6 ∨ k = 7 ∨ k = 8 ∨ k = 9 ∨ k = 10 := by omega

set_option maxHeartbeats 1000000 in
theorem kindOf (k : Int) (w : World) : Calls Tryz.prog 119 #[.int .i64 k] w fun e w' => e = .returned (kindV k) ∧ w' = w := by
  by_cases h : 1 ≤ k ∧ k ≤ 10
  · rcases cases10 h with rfl | rfl | rfl | rfl | rfl | rfl | rfl | rfl | rfl | rfl
    all_goals
      clear h
      go_enter Tryz.func119, Tryz.ntmps119
      go_wp2
      go_ret
      exact ⟨rfl, rfl⟩
  · have e : kindV k = .nilIface := if_neg h
    rw [e]
    have n1 : (k == 1) = false := beq_eq_false_iff_ne.2 (by omega)
    have n2 : (k == 2) = false := beq_eq_false_iff_ne.2 (by omega)
    have n3 : (k == 3) = false := beq_eq_false_iff_ne.2 (by omega)
    have n4 : (k == 4) = false := beq_eq_false_iff_ne.2 (by omega)
    have n5 : (k == 5) = false := beq_eq_false_iff_ne.2 (by omega)
    have n6 : (k == 6) = false := beq_eq_false_iff_ne.2 (by omega)
    have n7 : (k == 7) = false := beq_eq_false_iff_ne.2 (by omega)
    have n8 : (k == 8) = false := beq_eq_false_iff_ne.2 (by omega)
    have n9 : (k == 9) = false := beq_eq_false_iff_ne.2 (by omega)
    have n10 : (k == 10) = false := beq_eq_false_iff_ne.2 (by omega)
    clear e h
    go_enter Tryz.func119, Tryz.ntmps119
    go_wp2
    go_ret
    exact ⟨rfl, rfl⟩

theorem look (s : ByteArray) (n : Int) (w : World) : Calls Tryz.prog 262 #[.agg #[.string s, .int .i64 n]] w fun e w' => e = .returned (.agg #[.string s, .int .i64 n]) ∧ Below w.heap.size w w' := by
  go_enter Tryz.func262, Tryz.ntmps262
  go_wp2
  exact bodyPost_ret (v := .agg #[.string s, .int .i64 n]) (by simp [results, Tryz.results262, go_sem]) rfl ⟨rfl, ((Below.refl _ _).alloc (Nat.le_refl _) _).alloc (by simp) _⟩

/-! ### which function a method is -/
theorem mLookPair (s : ByteArray) (n : Int) (f : Value) (w : World) : (method 453 224 (.agg #[.string s, .int .i64 n, f]) "loop.example/scot/impl.look").run Tryz.prog w = .ok (262, .agg #[.string s, .int .i64 n]) w := by kernel_rfl
theorem mLookPart (s : ByteArray) (n : Int) (w : World) : (method 453 225 (.agg #[.string s, .int .i64 n]) "loop.example/scot/impl.look").run Tryz.prog w = .ok (262, .agg #[.string s, .int .i64 n]) w := by kernel_rfl
theorem mLookIf (s : ByteArray) (n : Int) (w : World) : (method 453 226 (.agg #[.string s, .int .i64 n]) "loop.example/scot/impl.look").run Tryz.prog w = .ok (262, .agg #[.string s, .int .i64 n]) w := by kernel_rfl
theorem mLookSteps (s : ByteArray) (n : Int) (w : World) : (method 453 227 (.agg #[.string s, .int .i64 n]) "loop.example/scot/impl.look").run Tryz.prog w = .ok (262, .agg #[.string s, .int .i64 n]) w := by kernel_rfl
theorem mLookNum (s : ByteArray) (n : Int) (w : World) : (method 453 221 (.agg #[.string s, .int .i64 n]) "loop.example/scot/impl.look").run Tryz.prog w = .ok (262, .agg #[.string s, .int .i64 n]) w := by kernel_rfl
theorem mLookMeter (s : ByteArray) (n : Int) (w : World) : (method 453 222 (.agg #[.string s, .int .i64 n]) "loop.example/scot/impl.look").run Tryz.prog w = .ok (262, .agg #[.string s, .int .i64 n]) w := by kernel_rfl


/-- the part that most kinds share -/
def lookV (k : Int) : Value := .agg #[.string (wordK k), .int .i64 (kidsK k)]
theorem mLook {k : Int} (h : 1 ≤ k ∧ k ≤ 10) (w : World) : (method 453 (typeK k) (recK k) "loop.example/scot/impl.look").run Tryz.prog w = .ok (262, lookV k) w := by
  rcases cases10 h with rfl | rfl | rfl | rfl | rfl | rfl | rfl | rfl | rfl | rfl
  · exact mLookNum _ _ w
  · exact mLookMeter _ _ w
  · exact mLookPair _ _ _ w
  · exact mLookPair _ _ _ w
  · exact mLookPair _ _ _ w
  · exact mLookPart _ _ w
  · exact mLookPair _ _ _ w
  · exact mLookPair _ _ _ w
  · exact mLookIf _ _ w
  · exact mLookSteps _ _ w
theorem kindV_in {k : Int} (h : 1 ≤ k ∧ k ≤ 10) : kindV k = .iface (typeK k) (recK k) := if_pos h
theorem kindV_out {k : Int} (h : ¬ (1 ≤ k ∧ k ≤ 10)) : kindV k = .nilIface := if_neg h

/-- the kind that a word heads, or 0 -/
def opK (s : ByteArray) : Int := if wordK 3 = s then 3 else if wordK 4 = s then 4 else if wordK 5 = s then 5 else if wordK 6 = s then 6 else if wordK 7 = s then 7 else if wordK 8 = s then 8 else if wordK 9 = s then 9 else if wordK 10 = s then 10 else 0
theorem opK_hit {s : ByteArray} {n : Int} (h1 : 3 ≤ n) (h2 : n ≤ 10) (hd : ∀ j, 3 ≤ j → j < n → wordK j ≠ s) (he : wordK n = s) : opK s = n := by
  unfold opK
  by_cases e3 : n = 3
  · subst e3; rw [if_pos he]
  rw [if_neg (hd 3 (by omega) (by omega))]
  by_cases e4 : n = 4
  · subst e4; rw [if_pos he]
  rw [if_neg (hd 4 (by omega) (by omega))]
  by_cases e5 : n = 5
  · subst e5; rw [if_pos he]
  rw [if_neg (hd 5 (by omega) (by omega))]
  by_cases e6 : n = 6
  · subst e6; rw [if_pos he]
  rw [if_neg (hd 6 (by omega) (by omega))]
  by_cases e7 : n = 7
  · subst e7; rw [if_pos he]
  rw [if_neg (hd 7 (by omega) (by omega))]
  by_cases e8 : n = 8
  · subst e8; rw [if_pos he]
  rw [if_neg (hd 8 (by omega) (by omega))]
  by_cases e9 : n = 9
  · subst e9; rw [if_pos he]
  rw [if_neg (hd 9 (by omega) (by omega))]
  obtain rfl : n = 10 := by omega
  rw [if_pos he]
theorem opK_none {s : ByteArray} (hd : ∀ j, 3 ≤ j → j < 11 → wordK j ≠ s) : opK s = 0 := by
  unfold opK
  rw [if_neg (hd 3 (by omega) (by omega)), if_neg (hd 4 (by omega) (by omega)), if_neg (hd 5 (by omega) (by omega)), if_neg (hd 6 (by omega) (by omega)), if_neg (hd 7 (by omega) (by omega)), if_neg (hd 8 (by omega) (by omega)), if_neg (hd 9 (by omega) (by omega)), if_neg (hd 10 (by omega) (by omega))]

theorem ext_toList {s t : ByteArray} (h : s.toList = t.toList) : s = t := by
  rw [Lib.toList_data, Lib.toList_data] at h
  cases s; cases t
  simp only at h
  rw [Array.toList_inj.1 h]
theorem eqB {s t : ByteArray} (h : s = t) : (s.toList == t.toList) = true := by rw [h]; simp
theorem neB {s t : ByteArray} (h : s ≠ t) : (s.toList == t.toList) = false := by
  rw [beq_eq_false_iff_ne]; intro e; exact h (ext_toList e)

set_option maxRecDepth 20000 in
set_option maxHeartbeats 1000000 in
/-- impl.kindNamed -/
theorem namedI (s : ByteArray) (w : World) : Calls Tryz.prog 115 #[.string s] w fun e w' => e = .returned (.int .i64 (opK s)) ∧ Below w.heap.size w w' := by
  generalize hr : opK s = r
  have HR := hide hr; clear hr
  go_enter Tryz.func115, Tryz.ntmps115
  go_wp2
  go_loopw [3] (fun i wr => ∃ n : Int, 3 ≤ n ∧ n ≤ 11 ∧ i = .int .i64 n ∧ Hid (∀ j, 3 ≤ j → j < n → wordK j ≠ s) ∧ Hid (Below w.heap.size w wr)) (fun i _ => 11 - (intOf i).toNat)
  case atStart => exact ⟨3, by omega, by omega, rfl, hide (fun j h1 h2 => by omega), hide (Below.refl _ _)⟩
  case round =>
    obtain ⟨n, hn3, hn11, rfl, hd, hb⟩ := hrel
    by_cases hlt : n ≤ 10
    · have hk : 1 ≤ n ∧ n ≤ 10 := ⟨by omega, hlt⟩
      have m1 := mLook hk
      have fl : ∀ (w : World), (Instr.field 192 (.agg #[.string (wordK n), .int .i64 (kidsK n)]) 0).run Tryz.prog w = .ok (.string (wordK n)) w := fun w => by kernel_rfl
      go_wp2_with (fail)
      refine (kindOf _ _).mono ?_
      rintro e w1 ⟨rfl, rfl⟩
      rw [kindV_in hk]
      go_wp2_with (fail)
      refine (look _ _ _).mono ?_
      rintro e w2 ⟨rfl, hb2⟩
      have HB := hide (below_trans (unhide hb) hb2)
      clear hb hb2
      by_cases he : wordK n = s
      · have hr : r = n := (unhide HR).symm.trans (opK_hit hn3 hlt (unhide hd) he)
        subst hr
        have hx := eqB he
        clear he
        go_wp2
        go_ret
        exact ⟨rfl, unhide HB⟩
      · have hd' : Hid (∀ j, 3 ≤ j → j < n + 1 → wordK j ≠ s) := hide (fun j h1 h2 => by
          by_cases e : j < n
          · exact unhide hd j h1 e
          · obtain rfl : j = n := by omega
            exact he)
        have hx := neB he
        clear he
        go_wp2
        exact ⟨⟨n + 1, by omega, by omega, rfl, hd', HB⟩, by simp [intOf]; omega⟩
    · have hr : r = 0 := (unhide HR).symm.trans (opK_none (fun j h1 h2 => unhide hd j h1 (by omega)))
      subst hr
      go_wp2
      go_ret
      exact ⟨rfl, unhide hb⟩

/-- a word of letters -/
def lettersB (l : List UInt8) : Bool := l.all fun c => decide (97 ≤ (c.toNat : Int) ∧ (c.toNat : Int) ≤ 122)
def tierW : ByteArray := ⟨#[116, 105, 101, 114]⟩
/-- RuleName -/
def nameB (s : ByteArray) : Bool := decide (1 ≤ s.size ∧ s.size ≤ 8) && lettersB s.data.toList && decide (opK s = 0) && decide (s ≠ tierW)

theorem nameB_size {s : ByteArray} (h : ¬ (1 ≤ s.size ∧ s.size ≤ 8)) : nameB s = false := by unfold nameB; rw [decide_eq_false h]; simp
theorem nameB_letter {s : ByteArray} {k : Nat} (hk : k < s.size) (h : ¬ (97 ≤ (s[k].toNat : Int) ∧ (s[k].toNat : Int) ≤ 122)) : nameB s = false := by
  have : lettersB s.data.toList = false := by
    unfold lettersB
    rw [List.all_eq_false]
    refine ⟨s[k], ?_, ?_⟩
    · exact Array.getElem_mem_toList (xs := s.data) hk
    · rw [decide_eq_false h]; simp
  unfold nameB; rw [this]; simp
theorem nameB_rest {s : ByteArray} (h : 1 ≤ s.size ∧ s.size ≤ 8) (hl : ∀ j (hj : j < s.size), 97 ≤ (s[j].toNat : Int) ∧ (s[j].toNat : Int) ≤ 122) : nameB s = (decide (opK s = 0) && decide (s ≠ tierW)) := by
  have : lettersB s.data.toList = true := by
    unfold lettersB
    rw [List.all_eq_true]
    intro c hc
    obtain ⟨j, hj, rfl⟩ := List.getElem_of_mem hc
    exact decide_eq_true (hl j (by simpa using hj))
  unfold nameB; rw [this, decide_eq_true h]; simp

set_option maxHeartbeats 1000000 in
/-- impl.RuleName -/
theorem nameI (s : ByteArray) (w : World) (hs : s.size ≤ maxLen) : Calls Tryz.prog 92 #[.string s] w fun e w' => e = .returned (.bool (nameB s)) ∧ Below w.heap.size w w' := by
  unfold maxLen at hs
  by_cases hsz : 1 ≤ s.size ∧ s.size ≤ 8
  · obtain ⟨z1, z2⟩ := hsz
    have y1 : (1 : Int) ≤ (s.size : Int) := by omega
    have y2 : (s.size : Int) ≤ 8 := by omega
    generalize hr : nameB s = r
    have HR := hide hr; clear hr
    go_enter Tryz.func92, Tryz.ntmps92
    go_wp2
    go_loop [14] (fun i => ∃ k : Nat, k ≤ s.size ∧ i = .int .i64 k ∧ Hid (∀ j (hj : j < s.size), j < k → 97 ≤ (s[j].toNat : Int) ∧ (s[j].toNat : Int) ≤ 122)) (fun i => s.size - (intOf i).toNat)
    case atStart => exact ⟨0, Nat.zero_le _, rfl, hide (fun j hj h => by omega)⟩
    case round =>
      obtain ⟨k, hk, rfl, hd⟩ := hrel
      by_cases hlt : k < s.size
      · by_cases hc : 97 ≤ (s[k].toNat : Int) ∧ (s[k].toNat : Int) ≤ 122
        · have hd' : Hid (∀ j (hj : j < s.size), j < k + 1 → 97 ≤ (s[j].toNat : Int) ∧ (s[j].toNat : Int) ≤ 122) := hide (fun j hj h => by
            by_cases e : j < k
            · exact unhide hd j hj e
            · obtain rfl : j = k := by omega
              exact hc)
          obtain ⟨a1, a2⟩ := hc
          go_wp2
          exact ⟨⟨k + 1, by omega, by go_num, hd'⟩, by simp [intOf]; omega⟩
        · have hr : r = false := (unhide HR).symm.trans (nameB_letter hlt hc)
          subst hr
          by_cases h97 : (s[k].toNat : Int) < 97
          · go_wp2
            go_ret
            exact ⟨rfl, Below.refl _ _⟩
          · have h122 : 122 < (s[k].toNat : Int) := by omega
            go_wp2
            go_ret
            exact ⟨rfl, Below.refl _ _⟩
      · have hr : r = (decide (opK s = 0) && decide (s ≠ tierW)) := (unhide HR).symm.trans (nameB_rest ⟨z1, z2⟩ (fun j hj => unhide hd j hj (by omega)))
        by_cases ht : s = tierW
        · have e : (decide (opK s = 0) && decide (s ≠ tierW)) = false := by simp [ht]
          rw [e] at hr
          subst hr
          have hx : (!s.toList == [116, 105, 101, 114]) = false := by rw [ht, Lib.toList_data]; rfl
          clear e ht
          go_wp2_with (fail)
          go_ret
          exact ⟨rfl, Below.refl _ _⟩
        · have e : (decide (opK s = 0) && decide (s ≠ tierW)) = decide (opK s = 0) := by simp [ht]
          rw [e] at hr
          subst hr
          have hx : (!s.toList == [116, 105, 101, 114]) = true := by
            have : s.toList ≠ tierW.toList := fun h => ht (ext_toList h)
            rw [Lib.toList_data tierW] at this
            simpa [tierW] using this
          clear e ht
          go_wp2_with (fail)
          refine (namedI s _).mono ?_
          rintro e w1 ⟨rfl, hb1⟩
          have HB := hide hb1
          clear hb1
          have hd : (opK s == 0) = decide (opK s = 0) := rfl
          go_wp2
          go_ret
          exact ⟨rfl, unhide HB⟩
  · rw [nameB_size hsz]
    by_cases z1 : (s.size : Int) < 1
    · go_enter Tryz.func92, Tryz.ntmps92
      go_wp2
      go_ret
      exact ⟨rfl, Below.refl _ _⟩
    · have z2 : (8 : Int) < s.size := by omega
      go_enter Tryz.func92, Tryz.ntmps92
      go_wp2
      go_ret
      exact ⟨rfl, Below.refl _ _⟩

set_option maxRecDepth 20000 in
set_option maxHeartbeats 1000000 in
/-- spec.l2Op -/
theorem opS (s : ByteArray) (w : World) : Calls Tryz.prog 77 #[.string s] w fun e w' => e = .returned (.int .i64 (opK s)) ∧ Below w.heap.size w w' := by
  generalize hr : opK s = r
  have HR := hide hr; clear hr
  have hcell : ∀ k : Nat, k < 8 → (w.alloc (.cells #[.string (wordK 3), .string (wordK 4), .string (wordK 5), .string (wordK 6), .string (wordK 7), .string (wordK 8), .string (wordK 9), .string (wordK 10)] 9)).cell? ⟨w.heap.size, k, none⟩ = some (.string (wordK (k + 3))) := fun k hk => by
    have e1 := (MapKept.heap_alloc w (.cells #[.string (wordK 3), .string (wordK 4), .string (wordK 5), .string (wordK 6), .string (wordK 7), .string (wordK 8), .string (wordK 9), .string (wordK 10)] 9)).1
    simp only [World.cell?]
    rw [e1]
    rcases (by omega : k = 0 ∨ k = 1 ∨ k = 2 ∨ k = 3 ∨ k = 4 ∨ k = 5 ∨ k = 6 ∨ k = 7) with rfl | rfl | rfl | rfl | rfl | rfl | rfl | rfl <;> rfl
  have HCE := hide hcell
  clear hcell
  go_enter Tryz.func77, Tryz.ntmps77
  go_wp2
  go_loop [4] (fun i => ∃ k : Nat, k ≤ 8 ∧ i = .int .i64 k ∧ Hid (∀ j : Int, 3 ≤ j → j < k + 3 → wordK j ≠ s)) (fun i => 8 - (intOf i).toNat)
  case atStart => exact ⟨0, Nat.zero_le _, rfl, hide (fun j h1 h2 => by omega)⟩
  case round =>
    obtain ⟨k, hk, rfl, hd⟩ := hrel
    by_cases hlt : k < 8
    · have hc := unhide HCE k hlt
      have hc' : (w.alloc (Obj.cells #[Value.string ⟨#[97, 100, 100]⟩, Value.string ⟨#[115, 117, 98]⟩, .string ⟨#[116, 105, 109, 101, 115]⟩, .string ⟨#[112, 97, 114, 116]⟩, .string ⟨#[109, 105, 110]⟩, .string ⟨#[109, 97, 120]⟩, .string ⟨#[105, 102]⟩, .string ⟨#[115, 116, 101, 112, 115]⟩] 9)).cell? ⟨w.heap.size, k, none⟩ = some (.string (wordK (k + 3))) := hc
      clear hc
      by_cases he : wordK (k + 3) = s
      · have hr : r = k + 3 := (unhide HR).symm.trans (opK_hit (by omega) (by omega) (unhide hd) he)
        subst hr
        have hx := eqB he
        clear he
        generalize wordK (k + 3) = t at *
        go_wp2
        go_ret
        exact ⟨rfl, (Below.refl _ _).alloc (Nat.le_refl _) _⟩
      · have hd' : Hid (∀ j : Int, 3 ≤ j → j < ((k + 1 : Nat) : Int) + 3 → wordK j ≠ s) := hide (fun j h1 h2 => by
          by_cases e : j < k + 3
          · exact unhide hd j h1 e
          · obtain rfl : j = k + 3 := by omega
            exact he)
        have hx := neB he
        clear he
        generalize wordK (k + 3) = t at *
        go_wp2
        exact ⟨⟨k + 1, by omega, by go_num, hd'⟩, by simp [intOf]; omega⟩
    · have hr : r = 0 := (unhide HR).symm.trans (opK_none (fun j h1 h2 => unhide hd j h1 (by omega)))
      subst hr
      go_wp2
      go_ret
      exact ⟨rfl, (Below.refl _ _).alloc (Nat.le_refl _) _⟩

set_option maxHeartbeats 1000000 in
/-- spec.RuleName -/
theorem nameS (s : ByteArray) (w : World) (hs : s.size ≤ maxLen) : Calls Tryz.prog 49 #[.string s] w fun e w' => e = .returned (.bool (nameB s)) ∧ Below w.heap.size w w' := by
  unfold maxLen at hs
  by_cases hsz : 1 ≤ s.size ∧ s.size ≤ 8
  · obtain ⟨z1, z2⟩ := hsz
    have y1 : (1 : Int) ≤ (s.size : Int) := by omega
    have y2 : (s.size : Int) ≤ 8 := by omega
    generalize hr : nameB s = r
    have HR := hide hr; clear hr
    go_enter Tryz.func49, Tryz.ntmps49
    go_wp2
    go_loop [3] (fun i => ∃ k : Nat, k ≤ s.size ∧ i = .int .i64 k ∧ Hid (∀ j (hj : j < s.size), j < k → 97 ≤ (s[j].toNat : Int) ∧ (s[j].toNat : Int) ≤ 122)) (fun i => s.size - (intOf i).toNat)
    case atStart => exact ⟨0, Nat.zero_le _, rfl, hide (fun j hj h => by omega)⟩
    case round =>
      obtain ⟨k, hk, rfl, hd⟩ := hrel
      by_cases hlt : k < s.size
      · by_cases hc : 97 ≤ (s[k].toNat : Int) ∧ (s[k].toNat : Int) ≤ 122
        · have hd' : Hid (∀ j (hj : j < s.size), j < k + 1 → 97 ≤ (s[j].toNat : Int) ∧ (s[j].toNat : Int) ≤ 122) := hide (fun j hj h => by
            by_cases e : j < k
            · exact unhide hd j hj e
            · obtain rfl : j = k := by omega
              exact hc)
          obtain ⟨a1, a2⟩ := hc
          go_wp2
          exact ⟨⟨k + 1, by omega, by go_num, hd'⟩, by simp [intOf]; omega⟩
        · have hr : r = false := (unhide HR).symm.trans (nameB_letter hlt hc)
          subst hr
          by_cases h97 : (s[k].toNat : Int) < 97
          · go_wp2
            go_ret
            exact ⟨rfl, Below.refl _ _⟩
          · have h122 : 122 < (s[k].toNat : Int) := by omega
            go_wp2
            go_ret
            exact ⟨rfl, Below.refl _ _⟩
      · have hr : r = (decide (opK s = 0) && decide (s ≠ tierW)) := (unhide HR).symm.trans (nameB_rest ⟨z1, z2⟩ (fun j hj => unhide hd j hj (by omega)))
        go_wp2_with (fail)
        refine (opS s _).mono ?_
        rintro e w1 ⟨rfl, hb1⟩
        have HB := hide hb1
        clear hb1
        by_cases ho : opK s = 0
        · have h1 : (opK s == 0) = true := by simp [ho]
          by_cases ht : s = tierW
          · have e : (decide (opK s = 0) && decide (s ≠ tierW)) = false := by simp [ht]
            rw [e] at hr
            subst hr
            have hx : (!s.toList == [116, 105, 101, 114]) = false := by rw [ht, Lib.toList_data]; rfl
            clear e ht ho
            go_wp2
            go_ret
            exact ⟨rfl, unhide HB⟩
          · have e : (decide (opK s = 0) && decide (s ≠ tierW)) = true := by simp [ht, ho]
            rw [e] at hr
            subst hr
            have hx : (!s.toList == [116, 105, 101, 114]) = true := by
              have : s.toList ≠ tierW.toList := fun h => ht (ext_toList h)
              rw [Lib.toList_data tierW] at this
              simpa [tierW] using this
            clear e ht ho
            go_wp2
            go_ret
            exact ⟨rfl, unhide HB⟩
        · have h1 : (opK s == 0) = false := by simp [ho]
          have e : (decide (opK s = 0) && decide (s ≠ tierW)) = false := by simp [ho]
          rw [e] at hr
          subst hr
          clear e ho
          go_wp2
          go_ret
          exact ⟨rfl, unhide HB⟩
  · rw [nameB_size hsz]
    by_cases z1 : (s.size : Int) < 1
    · go_enter Tryz.func49, Tryz.ntmps49
      go_wp2
      go_ret
      exact ⟨rfl, Below.refl _ _⟩
    · have z2 : (8 : Int) < s.size := by omega
      go_enter Tryz.func49, Tryz.ntmps49
      go_wp2
      go_ret
      exact ⟨rfl, Below.refl _ _⟩

end Go.Proofs.YtnchgeiinkaefaaGreatDoor.Kinds
end

section
/-
  errors.As at a code of bills, walked; impl.codeOf.
-/
namespace Go.Proofs.YtnchgeiinkaefaaGreatDoor.ErrA
set_option linter.unusedVariables false
open Go.RowKit
open Boxes (hide unhide At)

theorem below_alloc1 (w : World) (o : Obj) : Below w.heap.size w (w.alloc o) := (Below.refl _ _).alloc (Nat.le_refl _) _

theorem as_nil (t : Value) (w : World) : Calls Tryz.prog 48 #[.nilIface, t] w fun e w' => e = .returned (.bool false) ∧ w' = w := by
  go_enter Tryz.func48, Tryz.ntmps48
  go_wp2
  go_ret
  exact ⟨rfl, rfl⟩

set_option maxRecDepth 20000 in
set_option maxHeartbeats 2000000 in
theorem as_in (c : Int) (g b : Nat) (old : Int) (w : World) (hb : w.cell? ⟨b, 0, none⟩ = some (.pointer (some ⟨g, 0, none⟩))) (hbl : b < w.heap.size) (hgl : g < w.heap.size) (hc : w.cell? ⟨g, 0, none⟩ = some (.int .i64 old)) (hf : w.frozen? ⟨g, 0, none⟩ = false) :
    Calls Tryz.prog 76 #[.iface 84 (.int .i64 c), .iface 96 (.pointer (some ⟨g, 0, none⟩)), .agg #[hdl 96, .pointer (some ⟨b, 0, none⟩), .int .u64 150], rty 84] w fun x w' => x = .returned (.bool true) ∧ w.grownBy w' (some g) ∧ w'.cell? ⟨g, 0, none⟩ = some (.int .i64 c) := by
  have t1 := tofC
  have t2 := asgC
  have t3 := mAsg
  have t5 := vofC
  have hbA := below_alloc1 w (.cells #[hdl 96, .pointer (some ⟨b, 0, none⟩), .int .u64 150] 133)
  have hbB := hbA.trans ((below_alloc1 _ (.cells #[.int .i64 c] 84)).mono hbA.size)
  have t6 := elemV ⟨b, 0, none⟩ ⟨g, 0, none⟩ _ ((hbA.cell (p := ⟨b, 0, none⟩) hbl).trans hb)
  have n1 := ((At.new (w.alloc (.cells #[hdl 96, .pointer (some ⟨b, 0, none⟩), .int .u64 150] 133)) #[.int .i64 c] 84) 0 _ rfl).1
  rw [World.size_alloc] at n1
  have t7 := setC ⟨g, 0, none⟩ ⟨w.heap.size + 1, 0, none⟩ c (.int .i64 old) _ n1 ((hbB.cell (p := ⟨g, 0, none⟩) hgl).trans hc) ((hbB.frozen (p := ⟨g, 0, none⟩) hgl).trans hf)
  have HC := hide hc
  clear hbA hbB n1 hb hc hf
  go_enter Tryz.func76, Tryz.ntmps76
  go_wp2
  refine wp_loop_rounds 1 ?_
  rw [rounds_succ]
  go_wp2
  go_ret
  have hs := Evs.growS w g 0 (.int .i64 c)
  have h1 := below_alloc1 (w.setCell ⟨g, 0, none⟩ (.int .i64 c)) (.cells #[hdl 96, .pointer (some ⟨b, 0, none⟩), .int .u64 150] 133)
  have h2 := h1.trans ((below_alloc1 _ (.cells #[.int .i64 c] 84)).mono h1.size)
  refine ⟨rfl, Evs.growT hs (Evs.growB h2 _), ?_⟩
  exact (h2.cell (p := ⟨g, 0, none⟩) (by simpa using hgl)).trans (World.cell?_setCell_same _ _ _ (unhide HC))

set_option maxRecDepth 20000 in
set_option maxHeartbeats 2000000 in
theorem as_hit (c : Int) (g : Nat) (old : Int) (w : World) (hgl : g < w.heap.size) (hc : w.cell? ⟨g, 0, none⟩ = some (.int .i64 old)) (hf : w.frozen? ⟨g, 0, none⟩ = false) (he : w.cell? ⟨0, 0, none⟩ = some (rty 62)) (hel : 0 < w.heap.size) :
    Calls Tryz.prog 48 #[.iface 84 (.int .i64 c), .iface 96 (.pointer (some ⟨g, 0, none⟩))] w fun x w' => x = .returned (.bool true) ∧ w.grownBy w' (some g) ∧ w'.cell? ⟨g, 0, none⟩ = some (.int .i64 c) := by
  have t1 := vofP
  have t2 := vtyp
  have t3 := kndP
  have t4 := kndC
  have t5 := elmP
  have t6 := impC
  have t7 := mKnd
  have t8 := mElm
  have t9 := mImp
  have hbA := below_alloc1 w (.cells #[.pointer (some ⟨g, 0, none⟩)] 96)
  have hbB := hbA.trans ((below_alloc1 _ (.cells #[hdl 96, .pointer (some ⟨w.heap.size, 0, none⟩), .int .u64 150] 133)).mono hbA.size)
  have n1 := ((At.new w #[.pointer (some ⟨g, 0, none⟩)] 96) 0 _ rfl).1
  have n2 := ((below_alloc1 (w.alloc (.cells #[.pointer (some ⟨g, 0, none⟩)] 96)) (.cells #[hdl 96, .pointer (some ⟨w.heap.size, 0, none⟩), .int .u64 150] 133)).cell (p := ⟨w.heap.size, 0, none⟩) (by simp)).trans n1
  have t10 := nilP ⟨w.heap.size, 0, none⟩ ⟨g, 0, none⟩ _ n2
  have he2 := (hbB.cell (p := ⟨0, 0, none⟩) hel).trans he
  have hc2 := (hbB.cell (p := ⟨g, 0, none⟩) hgl).trans hc
  have hf2 := (hbB.frozen (p := ⟨g, 0, none⟩) hgl).trans hf
  have HBB := hide hbB
  have HN2 := hide n2
  have HC2 := hide hc2
  have HF2 := hide hf2
  clear hbA hbB n1 n2 hc hf hc2 hf2 he
  go_enter Tryz.func48, Tryz.ntmps48
  go_wp2_with (fail)
  refine (as_in c g w.heap.size old _ (unhide HN2) (by simp; omega) (by simp; omega) (unhide HC2) (unhide HF2)).mono ?_
  rintro x w2 ⟨rfl, hg, hc⟩
  have HG := hide (Evs.growT (Evs.growB (unhide HBB) (some g)) hg)
  have HC := hide hc
  clear hg hc t1 t2 t3 t4 t5 t6 t7 t8 t9 t10 he2
  go_wp2_with (fail)
  go_ret
  exact ⟨rfl, unhide HG, unhide HC⟩

set_option maxHeartbeats 1000000 in
/-- impl.codeOf -/
theorem codeOf_nil (w : World) : Calls Tryz.prog 28 #[.nilIface] w fun x w' => x = .returned (.int .i64 0) ∧ Below w.heap.size w w' := by
  go_enter Tryz.func28, Tryz.ntmps28
  go_wp2_with (fail)
  refine (as_nil _ _).mono ?_
  rintro x w1 ⟨rfl, rfl⟩
  go_wp2_with (fail)
  go_ret
  exact ⟨rfl, below_alloc1 _ _⟩

set_option maxHeartbeats 1000000 in
theorem codeOf_code (c : Int) (w : World) (he : w.cell? ⟨0, 0, none⟩ = some (rty 62)) (hel : 0 < w.heap.size) : Calls Tryz.prog 28 #[.iface 84 (.int .i64 c)] w fun x w' => x = .returned (.int .i64 c) ∧ Below w.heap.size w w' := by
  obtain ⟨n1, n2⟩ := (At.new w #[.int .i64 0] 84) 0 _ rfl
  have hb := below_alloc1 w (.cells #[.int .i64 0] 84)
  have he2 := (hb.cell (p := ⟨0, 0, none⟩) hel).trans he
  have H1 := hide n1
  have H2 := hide n2
  have H3 := hide he2
  clear n1 n2 hb he2 he
  go_enter Tryz.func28, Tryz.ntmps28
  go_wp2_with (fail)
  refine (as_hit c w.heap.size 0 _ (by simp) (unhide H1) (unhide H2) (unhide H3) (by simp)).mono ?_
  rintro x w1 ⟨rfl, hg, hc⟩
  have HB := hide ((below_alloc1 w (.cells #[.int .i64 0] 84)).grown hg (by simp) (fun j hj => by cases hj; exact Nat.le_refl _))
  clear hg
  go_wp2_with (fail)
  go_ret
  exact ⟨rfl, unhide HB⟩
end Go.Proofs.YtnchgeiinkaefaaGreatDoor.ErrA
end

section
/-
  Slices of ints in memory, and the laws' own helpers on them (copy, compare, mark, look).
-/
namespace Go.Proofs.YtnchgeiinkaefaaGreatDoor.Ints
set_option linter.unusedVariables false
open Go.RowKit

theorem hide {p : Prop} (h : p) : Hid p := h
theorem unhide {p : Prop} (h : Hid p) : p := h

/-- from o on block b holds the numbers l; none of these cells is frozen -/
def Cells (W : World) (b o : Nat) (l : List Int) : Prop := b < W.heap.size ∧ ∀ i, i < l.length → W.cell? ⟨b, o + i, none⟩ = some (.int .i64 (l.getD i 0)) ∧ W.frozen? ⟨b, o + i, none⟩ = false

theorem Cells.kept {W W' : World} {b o : Nat} {l : List Int} {r : Option Nat} (h : Cells W b o l) (hg : W.grownBy W' r) (hb : some b ≠ r) : Cells W' b o l :=
  ⟨Nat.lt_of_lt_of_le h.1 hg.size, fun i hi => ⟨hg.cell (h.2 i hi).1 hb, by rw [World.frozen?_of_block (hg.block b h.1 hb)]; exact (h.2 i hi).2⟩⟩

theorem Cells.set {W : World} {b o : Nat} {l : List Int} (h : Cells W b o l) {k : Nat} (hk : k < l.length) (x : Int) : Cells (W.setCell ⟨b, o + k, none⟩ (.int .i64 x)) b o (l.set k x) := by
  refine ⟨by simpa using h.1, fun i hi => ?_⟩
  have hi' : i < l.length := by simpa using hi
  obtain ⟨h1, h2⟩ := h.2 i hi'
  obtain ⟨h3, h4⟩ := h.2 k hk
  refine ⟨?_, by rw [World.frozen?_setCell]; exact h2⟩
  by_cases e : i = k
  · subst e
    rw [List.getD_eq_getElem?_getD, List.getElem?_set_self hi']
    exact World.cell?_setCell_same _ _ _ h3
  · rw [World.cell?_setCell_other _ _ _ _ (by simp), h1, List.getD_eq_getElem?_getD, List.getD_eq_getElem?_getD, List.getElem?_set_ne (by omega)]

theorem Cells.made (w : World) (n : Nat) (t : TypeId) : Cells (w.alloc (.cells (madeCells #[.int .i64 0] n) t)) w.heap.size 0 (List.replicate n 0) := by
  refine ⟨by simp, fun i hi => ?_⟩
  have hi' : i < n := by simpa using hi
  have e1 := (MapKept.heap_alloc w (.cells (madeCells #[.int .i64 0] n) t)).1
  constructor
  · simp only [World.cell?]
    rw [e1]
    have em : i % 1 = 0 := Nat.mod_one i
    simp [madeCells, hi', em]
  · simp only [World.frozen?]
    rw [e1]; simp

/-- the slice v holds the numbers l -/
def IR (W : World) (v : Value) (l : List Int) : Prop :=
  (v = .slice none 0 0 ∧ l = []) ∨ ∃ b o cap, v = .slice (some ⟨b, o, none⟩) l.length cap ∧ l.length ≤ 1048576 ∧ Cells W b o l

/-- blocks that a slice does not lie in may turn -/
theorem IR.kept {W W' : World} {v : Value} {l : List Int} {r : Option Nat} (h : IR W v l) (hg : W.grownBy W' r) (hne : v.ownBlock = none ∨ v.ownBlock ≠ r) : IR W' v l := by
  rcases h with h | ⟨b, o, cap, rfl, h1, h2⟩
  · exact .inl h
  · have hb : some b ≠ r := by simpa [Value.ownBlock] using hne
    exact .inr ⟨b, o, cap, rfl, h1, h2.kept hg hb⟩
theorem IR.len {W : World} {v : Value} {l : List Int} (h : IR W v l) : l.length ≤ 1048576 := by
  rcases h with ⟨_, rfl⟩ | ⟨b, o, cap, rfl, h1, _⟩
  · simp
  · exact h1
theorem below_grown {a b : World} (h : Below a.heap.size a b) (r : Option Nat) : a.grownBy b r := ⟨h.os, h.tape, h.output, h.size, fun j hj _ => h.block j hj⟩
theorem grown_trans {a b c : World} {r : Option Nat} (h : a.grownBy b r) (k : b.grownBy c r) : a.grownBy c r :=
  ⟨k.os.trans h.os, k.tape.trans h.tape, k.output.trans h.output, Nat.le_trans h.size k.size, fun j hj hne => (k.block j (Nat.lt_of_lt_of_le hj h.size) hne).trans (h.block j hj hne)⟩
/-- a store into the row -/
theorem set_grown (w : World) (b o : Nat) (u : Value) : w.grownBy (w.setCell ⟨b, o, none⟩ u) (some b) := by
  refine ⟨rfl, rfl, rfl, ?_, ?_⟩
  · simp
  · intro j hj hne
    exact Below.heap_setCell w ⟨b, o, none⟩ u j (fun e => hne (by rw [e]))

theorem info : (Tryz.prog.info? 3).map (fun i => (i.zero, i.size, i.bytes)) = some (some (.int .i64 0), 1, 8) := by kernel_rfl

theorem copy_step (l : List Int) (k : Nat) (h : k < l.length) : (l.take k ++ List.replicate (l.length - k) 0).set k (l.getD k 0) = l.take (k + 1) ++ List.replicate (l.length - (k + 1)) 0 := by
  have e : l.length - k = (l.length - (k + 1)) + 1 := by omega
  rw [e, List.replicate_succ, List.set_append_right _ _ (by simp; omega)]
  have e2 : k - (l.take k).length = 0 := by simp; omega
  rw [e2, List.set_cons_zero]
  have e3 : l.take (k + 1) = l.take k ++ [l.getD k 0] := by rw [List.take_add_one, List.getElem?_eq_getElem h]; simp [List.getD, h]
  rw [e3, List.append_assoc]; rfl

theorem getD_eq {l m : List Int} (hl : l.length = m.length) (h : ∀ i, i < l.length → l.getD i 0 = m.getD i 0) : l = m := by
  apply List.ext_getElem hl
  intro i h1 h2
  have := h i h1
  simpa [List.getD, h1, h2] using this

/-- marks: k, k + 1, .. -/
def marks (k : Int) (n : Nat) : List Int := (List.range n).map fun (i : Nat) => k + (i : Int)
end Go.Proofs.YtnchgeiinkaefaaGreatDoor.Ints
end

section
/-
  The sum of weights (impl.weightSum, spec.l1Weights).
-/
namespace Go.Proofs.YtnchgeiinkaefaaGreatDoor.Share
set_option linter.unusedVariables false
open Go.RowKit Ints

def okW (x : Int) : Bool := decide (0 ≤ x ∧ x ≤ 1000000)
theorem sum_take (ws : List Int) (k : Nat) (h : k < ws.length) : (ws.take (k + 1)).sum = (ws.take k).sum + ws.getD k 0 := by
  have e : ws.take (k + 1) = ws.take k ++ [ws.getD k 0] := by rw [List.take_add_one, List.getElem?_eq_getElem h]; simp [List.getD, h]
  rw [e, List.sum_append]; simp
theorem sum_bd (ws : List Int) : ∀ k, (∀ j, j < k → okW (ws.getD j 0) = true) → k ≤ ws.length → 0 ≤ (ws.take k).sum ∧ (ws.take k).sum ≤ 1000000 * k := by
  intro k
  induction k with
  | zero => intro _ _; simp
  | succ k ih =>
    intro h hk
    have h1 := ih (fun j hj => h j (by omega)) (by omega)
    have h2 := h k (by omega)
    unfold okW at h2
    simp only [decide_eq_true_eq] at h2
    rw [sum_take ws k (by omega)]
    omega
end Go.Proofs.YtnchgeiinkaefaaGreatDoor.Share
end

section
/-
  'out = append(out, T{..})' on a slice of structs of two cells of the call's own.
-/
namespace Go.Proofs.YtnchgeiinkaefaaGreatDoor.App2
set_option linter.unusedVariables false
open Go.RowKit

/-- two values each -/
abbrev flat {α : Type} (f g : α → Value) (l : List α) : List Value := l.flatMap fun x => [f x, g x]
theorem flat_get {α : Type} (f g : α → Value) : ∀ (l : List α) (i : Nat) (x : α), l[i]? = some x → (flat f g l)[i * 2]? = some (f x) ∧ (flat f g l)[i * 2 + 1]? = some (g x)
  | [], i, x, h => by simp at h
  | y :: ys, 0, x, h => by
    simp only [List.getElem?_cons_zero, Option.some.injEq] at h
    subst h
    simp [flat]
  | y :: ys, i + 1, x, h => by
    have := flat_get f g ys i x (by simpa using h)
    have e1 : (i + 1) * 2 = i * 2 + 1 + 1 := by omega
    have e2 : (i + 1) * 2 + 1 = i * 2 + 1 + 1 + 1 := by omega
    rw [e1]
    simp only [flat, List.flatMap_cons, List.cons_append, List.nil_append, List.getElem?_cons_succ]
    exact this

/-- the slice of the call's own in block b holds l -/
def Own2 {α : Type} (e : TypeId) (f g : α → Value) (W : World) (B b cap : Nat) (l : List α) : Prop := W.ownsRow B e 2 (.slice (some ⟨b, 0, none⟩) l.length cap) l.length (flat f g l)

section
variable {ops : Array Oper} {o : Oper} {a : Act} {K : Act → World → Prop} {Q : Exit → Act → World → Prop} {E : Prop} {α : Type} {e t : TypeId} {f g : α → Value} {i : TypeInfo} {z : Value} {bytes : Nat}

theorem listApp2 (w : World) {rest : List Oper} (ht : Tryz.prog.underlying t = some (.slice e)) (hinfo : Tryz.prog.info? e = some i) (hzero : i.zero = some z) (hsize : i.size = 2) (hbytes : i.bytes = bytes) (hz : z.cells.size = 2) (hb24 : bytes ≤ 100) (hf : ∀ x : α, (f x).oneCell' = true ∧ (g x).oneCell' = true)
    (hgd : o.guard = none) (s x : Operand) (ho : o.op = .call { callee := .builtin .append, args := #[s, x], argTypes := #[t, t] })
    (B b c N n : Nat) (l : List α) (q : α) (hn : l.length = n) (hs : a.eval s = .slice (some ⟨b, 0, none⟩) n c) (hown : Own2 e f g w B b c l) (hx : a.eval x = .slice (some ⟨N, 0, none⟩) 1 1) (hN : w.heap[N]? = some (.cells #[f q, g q] e (0, 0)))
    (hl : l.length ≤ 1000000) (hB : B ≤ w.heap.size)
    (h : ∀ b' c' w', Own2 e f g w' B b' c' (l ++ [q]) → w.grownBy w' (some b) → (b = b' ∨ b' = w.heap.size) → b' < w'.heap.size → wpList Tryz.prog ops Q rest (a.put o.dst (.slice (some ⟨b', 0, none⟩) (n + 1) c')) w') :
    wpList Tryz.prog ops Q (o :: rest) a w := by
  subst hn
  have hby : (l.length + 1) * bytes ≤ 140737488355328 := by
    have : (l.length + 1) * bytes ≤ 1000001 * 100 := Nat.mul_le_mul (by omega) hb24
    omega
  exact wpList_append_lies (P := Tryz.prog) w hgd s x t ho B e i z 2 bytes ht hinfo hzero hsize hbytes hz (by omega) _ l.length (flat f g l) hs hown ⟨N, 0, none⟩ 1 1 [f q, g q] hx rfl (World.news_of_block hN) (by have := hf q; simp [this.1, this.2]) (by omega) (by unfold maxLen; omega) hby hB _ rfl
    (fun b' c' w' h1 h2 h3 h4 => h b' c' w' (by unfold Own2; simpa [flat] using h1) h2 (by rcases h3 with h3 | h3; exact .inl (by simpa [Value.ownBlock] using h3); exact .inr h3) h4)
end

section
variable {α : Type} {e : TypeId} {f g : α → Value}
theorem Own2.kept {W W' : World} {B b c : Nat} {l : List α} {r : Option Nat} (h : Own2 e f g W B b c l) (hg : W.grownBy W' r) (hne : some b ≠ r) : Own2 e f g W' B b c l :=
  World.ownsRow.kept h hg (.inr (by simpa [Value.ownBlock] using hne))
theorem Own2.lt {W : World} {B b c : Nat} {l : List α} (h : Own2 e f g W B b c l) : B ≤ b ∧ b < W.heap.size := World.ownsRow.lt h b rfl
theorem Own2.new (w : World) (B : Nat) (hB : B ≤ w.heap.size) : Own2 e f g (w.alloc (.cells #[] e)) B w.heap.size 0 ([] : List α) :=
  ⟨by simp, .inr ⟨w.heap.size, 0, #[], rfl, hB, (MapKept.heap_alloc w _).1, by simp, by unfold maxLen; omega, by simp, by simp⟩⟩
theorem Own2.cells {W : World} {B b c : Nat} {l : List α} (h : Own2 e f g W B b c l) (i : Nat) (x : α) (hx : l[i]? = some x) : W.cell? ⟨b, i * 2, none⟩ = some (f x) ∧ W.cell? ⟨b, i * 2 + 1, none⟩ = some (g x) := by
  obtain ⟨h1, h2⟩ := flat_get f g l i x hx
  have c1 := World.ownsRow.cells h rfl (i * 2) _ h1
  have c2 := World.ownsRow.cells h rfl (i * 2 + 1) _ h2
  rw [Addr.add_lit] at c1 c2
  rw [Nat.zero_add] at c1 c2
  exact ⟨c1, c2⟩
end
end Go.Proofs.YtnchgeiinkaefaaGreatDoor.App2
end

section
/-
  Slices of steps (two numbers) in memory, and the laws' own helpers on them: size, copy, compare.
-/
namespace Go.Proofs.YtnchgeiinkaefaaGreatDoor.Tiers
set_option linter.unusedVariables false
open Go.RowKit

theorem hide {p : Prop} (h : p) : Hid p := h
theorem unhide {p : Prop} (h : Hid p) : p := h

abbrev T := Int × Int
abbrev T0 : T := (0, 0)

/-- from o on block b holds the steps l -/
def TC (W : World) (b o : Nat) (l : List T) : Prop := b < W.heap.size ∧ ∀ i, i < l.length → W.cell? ⟨b, o + i * 2, none⟩ = some (.int .i64 (l.getD i T0).1) ∧ W.cell? ⟨b, o + i * 2 + 1, none⟩ = some (.int .i64 (l.getD i T0).2)

/-- the slice v holds the steps l -/
def TR (W : World) (v : Value) (l : List T) : Prop :=
  (l = [] ∧ ∃ a c, v = .slice a 0 c) ∨ ∃ b o cap, v = .slice (some ⟨b, o, none⟩) l.length cap ∧ TC W b o l

theorem TC.kept {W W' : World} {b o : Nat} {l : List T} (h : TC W b o l) (hb : Below W.heap.size W W') : TC W' b o l :=
  ⟨Nat.lt_of_lt_of_le h.1 hb.size, fun i hi => ⟨(hb.cell (p := ⟨b, o + i * 2, none⟩) h.1).trans (h.2 i hi).1, (hb.cell (p := ⟨b, o + i * 2 + 1, none⟩) h.1).trans (h.2 i hi).2⟩⟩
theorem TR.kept {W W' : World} {v : Value} {l : List T} (h : TR W v l) (hb : Below W.heap.size W W') : TR W' v l := by
  rcases h with h | ⟨b, o, cap, rfl, hc⟩
  · exact .inl h
  · exact .inr ⟨b, o, cap, rfl, hc.kept hb⟩
theorem below_trans {w w1 w2 : World} (h : Below w.heap.size w w1) (k : Below w1.heap.size w1 w2) : Below w.heap.size w w2 := h.trans (k.mono h.size)

/-! ### The copy -/

/-- a row of steps of the call's own: block b holds l, nothing of it is frozen -/
def TOwn (W : World) (b : Nat) (l : List T) : Prop := TC W b 0 l ∧ ∀ j, W.frozen? ⟨b, j, none⟩ = false

theorem TOwn.set {W : World} {b : Nat} {l : List T} (h : TOwn W b l) {k : Nat} (hk : k < l.length) (x : T) :
    TOwn ((W.setCell ⟨b, 0 + k * 2, none⟩ (.int .i64 x.1)).setCell ⟨b, 0 + k * 2 + 1, none⟩ (.int .i64 x.2)) b (l.set k x) := by
  refine ⟨⟨by simpa using h.1.1, fun i hi => ?_⟩, fun j => by simpa [World.frozen?_setCell] using h.2 j⟩
  have hi' : i < l.length := by simpa using hi
  obtain ⟨c0, c1⟩ := h.1.2 i hi'
  by_cases e : i = k
  · subst e
    rw [List.getD_eq_getElem?_getD, List.getElem?_set_self hi']
    refine ⟨?_, ?_⟩
    · rw [World.cell?_setCell_other _ _ _ _ (by simp)]
      exact World.cell?_setCell_same _ _ _ c0
    · exact World.cell?_setCell_same _ _ _ (by rw [World.cell?_setCell_other _ _ _ _ (by simp)]; exact c1)
  · rw [World.cell?_setCell_other _ _ _ _ (by simp), World.cell?_setCell_other _ _ _ _ (by simp), World.cell?_setCell_other _ _ _ _ (by simp), World.cell?_setCell_other _ _ _ _ (by simp), c0, c1, List.getD_eq_getElem?_getD, List.getD_eq_getElem?_getD, List.getElem?_set_ne (by omega)]
    exact ⟨rfl, rfl⟩

theorem TOwn.kept {W W' : World} {b : Nat} {l : List T} (h : TOwn W b l) (hb : Below W.heap.size W W') : TOwn W' b l :=
  ⟨h.1.kept hb, fun j => (hb.frozen (p := ⟨b, j, none⟩) h.1.1).trans (h.2 j)⟩

theorem infoT : (Tryz.prog.info? 184).map (fun i => (i.zero, i.size, i.bytes)) = some (some (.agg #[.int .i64 0, .int .i64 0]), 2, 16) := by kernel_rfl

theorem TOwn.made (w : World) (n : Nat) (t : TypeId) : TOwn (w.alloc (.cells (madeCells #[.int .i64 0, .int .i64 0] (n * 2)) t)) w.heap.size (List.replicate n T0) := by
  have e1 := (MapKept.heap_alloc w (.cells (madeCells #[.int .i64 0, .int .i64 0] (n * 2)) t)).1
  refine ⟨⟨by simp, fun i hi => ?_⟩, fun j => ?_⟩
  · have hi' : i < n := by simpa using hi
    have m0 : i * 2 % 2 = 0 := by omega
    have m1 : (i * 2 + 1) % 2 = 1 := by omega
    have l0 : i * 2 < n * 2 := by omega
    have l1 : i * 2 + 1 < n * 2 := by omega
    simp only [World.cell?]
    rw [e1]
    constructor
    · simp [madeCells, hi', l0, m0]
    · simp [madeCells, hi', l1, m1]
  · simp only [World.frozen?]
    rw [e1]; simp

theorem copy_step (l : List T) (k : Nat) (h : k < l.length) : (l.take k ++ List.replicate (l.length - k) T0).set k (l.getD k T0) = l.take (k + 1) ++ List.replicate (l.length - (k + 1)) T0 := by
  have e : l.length - k = (l.length - (k + 1)) + 1 := by omega
  rw [e, List.replicate_succ, List.set_append_right _ _ (by simp; omega)]
  have e2 : k - (l.take k).length = 0 := by simp; omega
  rw [e2, List.set_cons_zero]
  have e3 : l.take (k + 1) = l.take k ++ [l.getD k T0] := by rw [List.take_add_one, List.getElem?_eq_getElem h]; simp [List.getD, h]
  rw [e3, List.append_assoc]; rfl

theorem below_drewN' {B : Nat} {a w : World} (h : Below B a w) (k : Nat) : Below B a (w.drewN k) := ⟨h.os, h.tape, h.output, h.size, h.block⟩
theorem below_of_drew {B : Nat} {a w : World} (h : Below B a.drew w) : Below B a w := ⟨h.os, h.tape, h.output, h.size, h.block⟩
end Go.Proofs.YtnchgeiinkaefaaGreatDoor.Tiers
end

section
/-
  Expressions in memory, and the laws' own helpers on them: size, copy, compare.
-/
namespace Go.Proofs.YtnchgeiinkaefaaGreatDoor.Rule
set_option linter.unusedVariables false
open Go.RowKit Tiers

/-- the slice v holds the steps l, in a block from lo on and below hi -/
def TL (lo hi : Nat) (W : World) (v : Value) (l : List T) : Prop :=
  (l = [] ∧ ∃ a c, v = .slice a 0 c) ∨ ∃ b o cap, v = .slice (some ⟨b, o, none⟩) l.length cap ∧ lo ≤ b ∧ b < hi ∧ ∀ i, i < l.length → W.cell? ⟨b, o + i * 2, none⟩ = some (.int .i64 (l.getD i T0).1) ∧ W.cell? ⟨b, o + i * 2 + 1, none⟩ = some (.int .i64 (l.getD i T0).2)

theorem lt_of_cell {W : World} {b o : Nat} {v : Value} (h : W.cell? ⟨b, o, none⟩ = some v) : b < W.heap.size := by
  refine Nat.lt_of_not_le fun hn => ?_
  have h2 : W.heap[b]? = none := by simp; omega
  simp [World.cell?, h2] at h
theorem TL.toTR {lo hi : Nat} {W : World} {v : Value} {l : List T} (h : TL lo hi W v l) : TR W v l := by
  rcases h with h | ⟨b, o, cap, rfl, _, _, hc⟩
  · exact .inl h
  · by_cases h0 : l.length = 0
    · exact .inl ⟨List.length_eq_zero_iff.1 h0, _, cap, by rw [h0]⟩
    · exact .inr ⟨b, o, cap, rfl, lt_of_cell (hc 0 (by omega)).1, hc⟩
/-- W' is as W was from block lo on and below hi -/
def Same (lo hi : Nat) (W W' : World) : Prop := ∀ b, lo ≤ b → b < hi → W'.heap[b]? = W.heap[b]?
theorem TL.kept {lo hi : Nat} {W W' : World} {v : Value} {l : List T} (h : TL lo hi W v l) (hs : Same lo hi W W') : TL lo hi W' v l := by
  rcases h with h | ⟨b, o, cap, rfl, h1, h2, hc⟩
  · exact .inl h
  · exact .inr ⟨b, o, cap, rfl, h1, h2, fun i hi => ⟨(World.cell?_of_block (w := W) (hs b h1 h2)).trans (hc i hi).1, (World.cell?_of_block (w := W) (hs b h1 h2)).trans (hc i hi).2⟩⟩
theorem TL.mono {lo hi lo' hi' : Nat} {W : World} {v : Value} {l : List T} (h : TL lo hi W v l) (h1 : lo' ≤ lo) (h2 : hi ≤ hi') : TL lo' hi' W v l := by
  rcases h with h | ⟨b, o, cap, rfl, k1, k2, hc⟩
  · exact .inl h
  · exact .inr ⟨b, o, cap, rfl, by omega, by omega, hc⟩

/-- the slice v holds the expressions l: d deep at most, all in blocks from lo on and below hi -/
def ES (lo hi : Nat) (W : World) : Nat → Value → List Ex → Prop
  | 0, v, l => l = [] ∧ ∃ a c, v = .slice a 0 c
  | d + 1, v, l => (l = [] ∧ ∃ a c, v = .slice a 0 c) ∨ ∃ b o cap, v = .slice (some ⟨b, o, none⟩) l.length cap ∧ l.length ≤ maxLen ∧ lo ≤ b ∧ b < hi ∧ ∀ i, i < l.length →
      ∃ kv tv, (W.cell? ⟨b, o + i * 5, none⟩ = some (.int .i64 (l.getD i E0).kind) ∧ W.cell? ⟨b, o + i * 5 + 1, none⟩ = some (.int .i64 (l.getD i E0).num) ∧ W.cell? ⟨b, o + i * 5 + 2, none⟩ = some (.string (l.getD i E0).meter) ∧
        W.cell? ⟨b, o + i * 5 + 3, none⟩ = some kv ∧ W.cell? ⟨b, o + i * 5 + 4, none⟩ = some tv) ∧
        ((l.getD i E0).meter.size ≤ maxLen ∧ (l.getD i E0).tiers.length ≤ maxLen) ∧ ES lo hi W d kv (l.getD i E0).kids ∧ TL lo hi W tv (l.getD i E0).tiers
/-- the value v is the expression e -/
def EV (lo hi : Nat) (W : World) (d : Nat) (v : Value) (e : Ex) : Prop :=
  ∃ kv tv, v = .agg #[.int .i64 e.kind, .int .i64 e.num, .string e.meter, kv, tv] ∧ (e.meter.size ≤ maxLen ∧ e.tiers.length ≤ maxLen) ∧ ES lo hi W d kv e.kids ∧ TL lo hi W tv e.tiers

theorem ES.form {lo hi : Nat} {W : World} {d : Nat} {v : Value} {l : List Ex} (h : ES lo hi W d v l) : ∃ a c, v = .slice a l.length c ∧ l.length ≤ maxLen := by
  cases d with
  | zero => obtain ⟨rfl, a, c, rfl⟩ := h; exact ⟨a, c, rfl, by simp⟩
  | succ d =>
    rcases h with ⟨rfl, a, c, rfl⟩ | ⟨b, o, cap, rfl, hl, _⟩
    · exact ⟨a, c, rfl, by simp⟩
    · exact ⟨_, _, rfl, hl⟩
theorem ES.kept {lo hi : Nat} {W W' : World} (hs : Same lo hi W W') : ∀ {d : Nat} {v : Value} {l : List Ex}, ES lo hi W d v l → ES lo hi W' d v l := by
  intro d
  induction d with
  | zero => intro v l h; exact h
  | succ d ih =>
    intro v l h
    rcases h with h | ⟨b, o, cap, rfl, hl, h1, h2, hc⟩
    · exact .inl h
    · refine .inr ⟨b, o, cap, rfl, hl, h1, h2, fun i hi => ?_⟩
      obtain ⟨kv, tv, ⟨c0, c1, c2, c3, c4⟩, hz, hk, ht⟩ := hc i hi
      have hb := hs b h1 h2
      exact ⟨kv, tv, ⟨(World.cell?_of_block (w := W) hb).trans c0, (World.cell?_of_block (w := W) hb).trans c1, (World.cell?_of_block (w := W) hb).trans c2, (World.cell?_of_block (w := W) hb).trans c3, (World.cell?_of_block (w := W) hb).trans c4⟩, hz, ih hk, ht.kept hs⟩
theorem ES.mono {lo hi lo' hi' : Nat} {W : World} (h1 : lo' ≤ lo) (h2 : hi ≤ hi') : ∀ {d : Nat} {v : Value} {l : List Ex}, ES lo hi W d v l → ES lo' hi' W d v l := by
  intro d
  induction d with
  | zero => intro v l h; exact h
  | succ d ih =>
    intro v l h
    rcases h with h | ⟨b, o, cap, rfl, hl, k1, k2, hc⟩
    · exact .inl h
    · refine .inr ⟨b, o, cap, rfl, hl, by omega, by omega, fun i hi => ?_⟩
      obtain ⟨kv, tv, hcs, hz, hk, ht⟩ := hc i hi
      exact ⟨kv, tv, hcs, hz, ih hk, ht.mono h1 h2⟩
theorem EV.kept {lo hi : Nat} {W W' : World} {d : Nat} {v : Value} {e : Ex} (h : EV lo hi W d v e) (hs : Same lo hi W W') : EV lo hi W' d v e := by
  obtain ⟨kv, tv, rfl, hz, hk, ht⟩ := h
  exact ⟨kv, tv, rfl, hz, hk.kept hs, ht.kept hs⟩
theorem EV.mono {lo hi lo' hi' : Nat} {W : World} {d : Nat} {v : Value} {e : Ex} (h : EV lo hi W d v e) (h1 : lo' ≤ lo) (h2 : hi ≤ hi') : EV lo' hi' W d v e := by
  obtain ⟨kv, tv, rfl, hz, hk, ht⟩ := h
  exact ⟨kv, tv, rfl, hz, hk.mono h1 h2, ht.mono h1 h2⟩
theorem same_below {lo hi : Nat} {W W' : World} (hb : Below W.heap.size W W') (h : hi ≤ W.heap.size) : Same lo hi W W' := fun b _ h2 => hb.block b (by omega)
theorem same_trans {lo hi : Nat} {A B C : World} (h : Same lo hi A B) (k : Same lo hi B C) : Same lo hi A C := fun b h1 h2 => (k b h1 h2).trans (h b h1 h2)
/-! ### size -/

theorem new5 (w : World) (a b c d e : Value) (t : TypeId) : (w.alloc (.cells #[a, b, c, d, e] t)).cell? ⟨w.heap.size, 0, none⟩ = some a ∧ (w.alloc (.cells #[a, b, c, d, e] t)).cell? ⟨w.heap.size, 1, none⟩ = some b ∧ (w.alloc (.cells #[a, b, c, d, e] t)).cell? ⟨w.heap.size, 2, none⟩ = some c ∧
    (w.alloc (.cells #[a, b, c, d, e] t)).cell? ⟨w.heap.size, 3, none⟩ = some d ∧ (w.alloc (.cells #[a, b, c, d, e] t)).cell? ⟨w.heap.size, 4, none⟩ = some e := by
  have e1 := (MapKept.heap_alloc w (.cells #[a, b, c, d, e] t)).1
  simp only [World.cell?]
  rw [e1]; simp
/-- a boxed expression, behind a call that kept what there was -/
theorem box5 (w w1 : World) (a b c d e : Value) (t : TypeId) (hb : Below (w.alloc (.cells #[a, b, c, d, e] t)).heap.size (w.alloc (.cells #[a, b, c, d, e] t)) w1) :
    w1.cell? ⟨w.heap.size, 0, none⟩ = some a ∧ w1.cell? ⟨w.heap.size, 1, none⟩ = some b ∧ w1.cell? ⟨w.heap.size, 2, none⟩ = some c ∧ w1.cell? ⟨w.heap.size, 3, none⟩ = some d ∧ w1.cell? ⟨w.heap.size, 4, none⟩ = some e ∧ Below w.heap.size w w1 := by
  obtain ⟨n0, n1, n2, n3, n4⟩ := new5 w a b c d e t
  exact ⟨(hb.cell (p := ⟨w.heap.size, 0, none⟩) (by simp)).trans n0, (hb.cell (p := ⟨w.heap.size, 1, none⟩) (by simp)).trans n1, (hb.cell (p := ⟨w.heap.size, 2, none⟩) (by simp)).trans n2, (hb.cell (p := ⟨w.heap.size, 3, none⟩) (by simp)).trans n3, (hb.cell (p := ⟨w.heap.size, 4, none⟩) (by simp)).trans n4,
    ((Below.refl _ w).alloc (Nat.le_refl _) _).trans (hb.mono (by simp))⟩
theorem below_alloc (w : World) (o : Obj) : Below w.heap.size w (w.alloc o) := (Below.refl _ _).alloc (Nat.le_refl _) o

end Go.Proofs.YtnchgeiinkaefaaGreatDoor.Rule
end
