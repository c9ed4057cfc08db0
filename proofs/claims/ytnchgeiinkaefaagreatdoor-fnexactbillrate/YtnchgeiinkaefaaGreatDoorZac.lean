/-
  Texts of this proof laid together, in build order; each says of itself what it holds.
-/
import Derived.Test.YtnchgeiinkaefaaGreatDoorZab
import Derived.Test.YtnchgeiinkaefaaGreatDoorProg
import Derived.WalkKit
import Derived.WalkLawsBesides
import Derived.Below
import Derived.WalkMore
import Derived.Outline
import Derived.Laws.EntriesVeiled
import Derived.Lib.Strings
import Derived.Deep.OwnRows
section
/-
  toRuleExpr, toRuleExprS; eqRuleExpr, eqRuleExprS.
-/
namespace Go.Proofs.YtnchgeiinkaefaaGreatDoor.Rule
set_option linter.unusedVariables false
open Go.RowKit Tiers

/-- five cells of block b, none of them frozen -/
def At5 (W : World) (B : Nat) (a b c d e : Value) : Prop := (W.cell? ⟨B, 0, none⟩ = some a ∧ W.cell? ⟨B, 1, none⟩ = some b ∧ W.cell? ⟨B, 2, none⟩ = some c ∧ W.cell? ⟨B, 3, none⟩ = some d ∧ W.cell? ⟨B, 4, none⟩ = some e) ∧
  W.frozen? ⟨B, 0, none⟩ = false ∧ W.frozen? ⟨B, 1, none⟩ = false ∧ W.frozen? ⟨B, 2, none⟩ = false ∧ W.frozen? ⟨B, 3, none⟩ = false ∧ W.frozen? ⟨B, 4, none⟩ = false
theorem At5.kept {W W' : World} {B : Nat} {a b c d e : Value} (h : At5 W B a b c d e) (hb : W'.heap[B]? = W.heap[B]?) : At5 W' B a b c d e := by
  obtain ⟨⟨h0, h1, h2, h3, h4⟩, f0, f1, f2, f3, f4⟩ := h
  exact ⟨⟨(World.cell?_of_block (w := W) hb).trans h0, (World.cell?_of_block (w := W) hb).trans h1, (World.cell?_of_block (w := W) hb).trans h2, (World.cell?_of_block (w := W) hb).trans h3, (World.cell?_of_block (w := W) hb).trans h4⟩,
    (World.frozen?_of_block (w := W) hb).trans f0, (World.frozen?_of_block (w := W) hb).trans f1, (World.frozen?_of_block (w := W) hb).trans f2, (World.frozen?_of_block (w := W) hb).trans f3, (World.frozen?_of_block (w := W) hb).trans f4⟩
theorem At5.new (w : World) (a b c d e : Value) (t : TypeId) : At5 (w.alloc (.cells #[a, b, c, d, e] t)) w.heap.size a b c d e := by
  have e1 := (MapKept.heap_alloc w (.cells #[a, b, c, d, e] t)).1
  unfold At5
  simp only [World.cell?, World.frozen?]
  rw [e1]; simp
theorem At5.set3 {W : World} {B : Nat} {a b c d e : Value} (h : At5 W B a b c d e) (u : Value) : At5 (W.setCell ⟨B, 3, none⟩ u) B a b c u e := by
  obtain ⟨⟨h0, h1, h2, h3, h4⟩, hf⟩ := h
  refine ⟨⟨?_, ?_, ?_, World.cell?_setCell_same _ _ _ h3, ?_⟩, ?_⟩
  · rw [World.cell?_setCell_other _ _ _ _ (off_ne (by omega))]; exact h0
  · rw [World.cell?_setCell_other _ _ _ _ (off_ne (by omega))]; exact h1
  · rw [World.cell?_setCell_other _ _ _ _ (off_ne (by omega))]; exact h2
  · rw [World.cell?_setCell_other _ _ _ _ (off_ne (by omega))]; exact h4
  · simpa [World.frozen?_setCell] using hf
theorem At5.lt {W : World} {B : Nat} {a b c d e : Value} (h : At5 W B a b c d e) : B < W.heap.size := lt_of_cell h.1.1

theorem wtL_len (l : List Ex) : l.length ≤ wtL l := by rw [wtL_eq]; omega

end Go.Proofs.YtnchgeiinkaefaaGreatDoor.Rule
end

section
/-
  Steps that are right (spec.l2Tiers, impl.stepsRight).
-/
namespace Go.Proofs.YtnchgeiinkaefaaGreatDoor.Tiers
set_option linter.unusedVariables false
open Go.RowKit

def numB (x : Int) : Bool := decide (0 ≤ x ∧ x ≤ 1000000000)
/-- is step i of n right? -/
def okT (n i : Nat) (t : T) : Bool := (decide (i + 1 = n) == decide (t.1 = 0)) && numB t.1 && numB t.2
/-- are the steps right? -/
def rightB (l : List T) : Bool := decide (1 ≤ l.length ∧ l.length ≤ 6) && (List.range l.length).all fun i => okT l.length i (l.getD i T0)

theorem rightB_size {l : List T} (h : ¬ (1 ≤ l.length ∧ l.length ≤ 6)) : rightB l = false := by unfold rightB; rw [decide_eq_false h]; simp
theorem rightB_bad {l : List T} {k : Nat} (hk : k < l.length) (h : okT l.length k (l.getD k T0) = false) : rightB l = false := by
  have : ((List.range l.length).all fun i => okT l.length i (l.getD i T0)) = false := by
    rw [List.all_eq_false]
    exact ⟨k, List.mem_range.2 hk, by rw [h]; simp⟩
  unfold rightB; rw [this]; simp
theorem rightB_yes {l : List T} (h : 1 ≤ l.length ∧ l.length ≤ 6) (hd : ∀ i, i < l.length → okT l.length i (l.getD i T0) = true) : rightB l = true := by
  have : ((List.range l.length).all fun i => okT l.length i (l.getD i T0)) = true := by
    rw [List.all_eq_true]
    exact fun i hi => hd i (List.mem_range.1 hi)
  unfold rightB; rw [this, decide_eq_true h]; rfl
theorem rightB_len {l : List T} (h : rightB l = true) : 1 ≤ l.length ∧ l.length ≤ 6 := by
  by_cases h' : 1 ≤ l.length ∧ l.length ≤ 6
  · exact h'
  · rw [rightB_size h'] at h; cases h
theorem rightB_at {l : List T} (h : rightB l = true) {k : Nat} (hk : k < l.length) : okT l.length k (l.getD k T0) = true := by
  cases e : okT l.length k (l.getD k T0)
  · rw [rightB_bad hk e] at h; cases h
  · rfl
theorem okT_of {n i : Nat} {t : T} (h : okT n i t = true) : (i + 1 = n ↔ t.1 = 0) ∧ 0 ≤ t.1 ∧ t.1 ≤ 1000000000 ∧ 0 ≤ t.2 ∧ t.2 ≤ 1000000000 := by
  unfold okT numB at h
  simp only [Bool.and_eq_true, beq_iff_eq, decide_eq_decide, decide_eq_true_eq] at h
  exact ⟨h.1.1, h.1.2.1, h.1.2.2, h.2.1, h.2.2⟩
theorem okT_mk {n i : Nat} {t : T} (h : (i + 1 = n ↔ t.1 = 0) ∧ 0 ≤ t.1 ∧ t.1 ≤ 1000000000 ∧ 0 ≤ t.2 ∧ t.2 ≤ 1000000000) : okT n i t = true := by
  unfold okT numB
  simp only [Bool.and_eq_true, beq_iff_eq, decide_eq_decide, decide_eq_true_eq]
  exact ⟨⟨h.1, h.2.1, h.2.2.1⟩, h.2.2.2.1, h.2.2.2.2⟩

set_option maxHeartbeats 2000000 in
/-- spec.l2Tiers -/
theorem rightS (v : Value) (l : List T) (w : World) (h : TR w v l) (hl : l.length ≤ 1048576) :
    Calls Tryz.prog 113 #[v] w fun e w' => e = .returned (.bool (rightB l)) ∧ Below w.heap.size w w' := by
  by_cases hsz : 1 ≤ l.length ∧ l.length ≤ 6
  · rcases h with ⟨rfl, a, c, rfl⟩ | ⟨b, o, cap, rfl, hc⟩
    · simp at hsz
    obtain ⟨z1, z2⟩ := hsz
    have y1 : (1 : Int) ≤ (l.length : Int) := by omega
    have y2 : (l.length : Int) ≤ 6 := by omega
    generalize hr : rightB l = r
    have HR := hide hr
    have HC := hide hc
    clear hr hc
    go_enter Tryz.func113, Tryz.ntmps113
    go_wp2
    go_loop [3] (fun i => ∃ k : Nat, k ≤ l.length ∧ i = .int .i64 k ∧ Hid (∀ j, j < k → okT l.length j (l.getD j T0) = true)) (fun i => l.length - (intOf i).toNat)
    case atStart => exact ⟨0, Nat.zero_le _, rfl, hide (fun j hj => by omega)⟩
    case round =>
      obtain ⟨k, hk, rfl, hd⟩ := hrel
      by_cases hlt : k < l.length
      · obtain ⟨c0, c1⟩ := (unhide HC).2 k hlt
        have i1 : (0 : Int) ≤ (k : Int) := by omega
        have i2 : (k : Int) < (l.length : Int) := by omega
        cases ho : okT l.length k (l.getD k T0)
        · have hr : r = false := (unhide HR).symm.trans (rightB_bad hlt ho)
          subst hr
          have hno := mt okT_mk (by rw [ho]; simp)
          clear ho hd
          generalize (l.getD k T0).1 = x at *
          generalize (l.getD k T0).2 = y at *
          by_cases a1 : k + 1 = l.length
          all_goals by_cases a2 : x = 0
          all_goals by_cases x1 : x < 0
          all_goals by_cases x2 : 1000000000 < x
          all_goals by_cases q1 : y < 0
          all_goals by_cases q2 : 1000000000 < y
          all_goals first | (exfalso; omega) | skip
          all_goals clear hno
          all_goals first | (have b1 : ((k : Int) == (l.length : Int) - 1) = true := beq_iff_eq.2 (by omega)) | (have b1 : ((k : Int) == (l.length : Int) - 1) = false := beq_eq_false_iff_ne.2 (by omega))
          all_goals first | (have b2 : (x == 0) = true := beq_iff_eq.2 (by omega)) | (have b2 : (x == 0) = false := beq_eq_false_iff_ne.2 (by omega))
          all_goals clear a1 a2
          all_goals go_wp2
          all_goals go_ret
          all_goals exact ⟨rfl, Below.refl _ _⟩
        · obtain ⟨o1, o2, o3, o4, o5⟩ := okT_of ho
          have hd' : Hid (∀ j, j < k + 1 → okT l.length j (l.getD j T0) = true) := hide (fun j hj => by
            by_cases e : j < k
            · exact unhide hd j e
            · obtain rfl : j = k := by omega
              exact ho)
          clear ho hd
          generalize (l.getD k T0).1 = x at *
          generalize (l.getD k T0).2 = y at *
          by_cases a1 : k + 1 = l.length
          · have b1 : ((k : Int) == (l.length : Int) - 1) = true := beq_iff_eq.2 (by omega)
            have b2 : (x == 0) = true := beq_iff_eq.2 (o1.1 a1)
            clear a1 o1
            go_wp2
            exact ⟨⟨k + 1, by omega, by go_num, hd'⟩, by simp [intOf]; omega⟩
          · have b1 : ((k : Int) == (l.length : Int) - 1) = false := beq_eq_false_iff_ne.2 (by omega)
            have b2 : (x == 0) = false := beq_eq_false_iff_ne.2 (fun e => a1 (o1.2 e))
            clear a1 o1
            go_wp2
            exact ⟨⟨k + 1, by omega, by go_num, hd'⟩, by simp [intOf]; omega⟩
      · have hr : r = true := (unhide HR).symm.trans (rightB_yes ⟨z1, z2⟩ (fun i hi => unhide hd i (by omega)))
        subst hr
        go_wp2
        go_ret
        exact ⟨rfl, Below.refl _ _⟩
  · rw [rightB_size hsz]
    have e1 : ∃ a c, v = .slice a l.length c := by
      rcases h with ⟨rfl, a, c, rfl⟩ | ⟨b, o, cap, rfl, _⟩
      · exact ⟨_, _, rfl⟩
      · exact ⟨_, _, rfl⟩
    obtain ⟨a, c, rfl⟩ := e1
    clear h
    by_cases z1 : (l.length : Int) < 1
    · go_enter Tryz.func113, Tryz.ntmps113
      go_wp2
      go_ret
      exact ⟨rfl, Below.refl _ _⟩
    · have z2 : (6 : Int) < l.length := by omega
      go_enter Tryz.func113, Tryz.ntmps113
      go_wp2
      go_ret
      exact ⟨rfl, Below.refl _ _⟩
end Go.Proofs.YtnchgeiinkaefaaGreatDoor.Tiers
end

section
/-
  Kinds of expressions: what impl.kindOf hands out, and what the methods behind it answer.
-/
namespace Go.Proofs.YtnchgeiinkaefaaGreatDoor.Kinds
set_option linter.unusedVariables false
open Go.RowKit

theorem hide {p : Prop} (h : p) : Hid p := h
theorem unhide {p : Prop} (h : Hid p) : p := h
theorem below_trans {w w1 w2 : World} (h : Below w.heap.size w w1) (k : Below w1.heap.size w1 w2) : Below w.heap.size w w2 := h.trans (k.mono h.size)

/-- the word of a kind -/
def wordK (k : Int) : ByteArray :=
  if k = 3 then ⟨#[97, 100, 100]⟩ else if k = 4 then ⟨#[115, 117, 98]⟩ else if k = 5 then ⟨#[116, 105, 109, 101, 115]⟩ else if k = 6 then ⟨#[112, 97, 114, 116]⟩
  else if k = 7 then ⟨#[109, 105, 110]⟩ else if k = 8 then ⟨#[109, 97, 120]⟩ else if k = 9 then ⟨#[105, 102]⟩ else if k = 10 then ⟨#[115, 116, 101, 112, 115]⟩ else ⟨#[]⟩
/-- how many kids a kind has -/
def kidsK (k : Int) : Int := if k = 1 ∨ k = 2 then 0 else if k = 6 ∨ k = 10 then 1 else if k = 9 then 3 else if 3 ≤ k ∧ k ≤ 8 then 2 else -1
/-- what it is behind the interface -/
def typeK (k : Int) : TypeId := if k = 1 then 221 else if k = 2 then 222 else if k = 6 then 225 else if k = 9 then 226 else if k = 10 then 227 else 224
/-- what a pair is reckoned by -/
def funK (k : Int) : Nat := if k = 3 then 136 else if k = 4 then 137 else if k = 5 then 138 else if k = 7 then 139 else 140
def isPair (k : Int) : Bool := decide (k = 3 ∨ k = 4 ∨ k = 5 ∨ k = 7 ∨ k = 8)
def recK (k : Int) : Value := if isPair k = true then .agg #[.string (wordK k), .int .i64 (kidsK k), .func (.func (funK k)) #[] #[]] else .agg #[.string (wordK k), .int .i64 (kidsK k)]
/-- what kindOf answers -/
def kindV (k : Int) : Value := if 1 ≤ k ∧ k ≤ 10 then .iface (typeK k) (recK k) else .nilIface

theorem cases10 {k : Int} (h : 1 ≤ k ∧ k ≤ 10) : k = 1 ∨ k = 2 ∨ k = 3 ∨ k = 4 ∨ k = 5 ∨ k = 6 ∨ k = 7 ∨ k = 8 ∨ k = 9 ∨ k = 10 := by omega

set_option maxHeartbeats 1000000 in
theorem kindOf (k : Int) (w : World) : Calls Tryz.prog 119 #[.int .i64 k] w fun e w' => e = .returned (kindV k) ∧ w' = w := by
  by_cases h : 1 ≤ k ∧ k ≤ 10
  · rcases cases10 h with rfl | rfl | rfl | rfl | rfl | rfl | rfl | rfl | rfl | rfl
    all_goals
      clear h
      go_enter Tryz.func119, Tryz.ntmps119
      go_wp2
      go_ret
      exact ⟨rfl, rfl⟩
  · have e : kindV k = .nilIface := if_neg h
    rw [e]
    have n1 : (k == 1) = false := beq_eq_false_iff_ne.2 (by omega)
    have n2 : (k == 2) = false := beq_eq_false_iff_ne.2 (by omega)
    have n3 : (k == 3) = false := beq_eq_false_iff_ne.2 (by omega)
    have n4 : (k == 4) = false := beq_eq_false_iff_ne.2 (by omega)
    have n5 : (k == 5) = false := beq_eq_false_iff_ne.2 (by omega)
    have n6 : (k == 6) = false := beq_eq_false_iff_ne.2 (by omega)
    have n7 : (k == 7) = false := beq_eq_false_iff_ne.2 (by omega)
    have n8 : (k == 8) = false := beq_eq_false_iff_ne.2 (by omega)
    have n9 : (k == 9) = false := beq_eq_false_iff_ne.2 (by omega)
    have n10 : (k == 10) = false := beq_eq_false_iff_ne.2 (by omega)
    clear e h
    go_enter Tryz.func119, Tryz.ntmps119
    go_wp2
    go_ret
    exact ⟨rfl, rfl⟩

theorem look (s : ByteArray) (n : Int) (w : World) : Calls Tryz.prog 262 #[.agg #[.string s, .int .i64 n]] w fun e w' => e = .returned (.agg #[.string s, .int .i64 n]) ∧ Below w.heap.size w w' := by
  go_enter Tryz.func262, Tryz.ntmps262
  go_wp2
  exact bodyPost_ret (v := .agg #[.string s, .int .i64 n]) (by simp [results, Tryz.results262, go_sem]) rfl ⟨rfl, ((Below.refl _ _).alloc (Nat.le_refl _) _).alloc (by simp) _⟩

/-! ### which function a method is -/
theorem mLookPair (s : ByteArray) (n : Int) (f : Value) (w : World) : (method 453 224 (.agg #[.string s, .int .i64 n, f]) "loop.example/scot/impl.look").run Tryz.prog w = .ok (262, .agg #[.string s, .int .i64 n]) w := by kernel_rfl
theorem mLookPart (s : ByteArray) (n : Int) (w : World) : (method 453 225 (.agg #[.string s, .int .i64 n]) "loop.example/scot/impl.look").run Tryz.prog w = .ok (262, .agg #[.string s, .int .i64 n]) w := by kernel_rfl
theorem mLookIf (s : ByteArray) (n : Int) (w : World) : (method 453 226 (.agg #[.string s, .int .i64 n]) "loop.example/scot/impl.look").run Tryz.prog w = .ok (262, .agg #[.string s, .int .i64 n]) w := by kernel_rfl
theorem mLookSteps (s : ByteArray) (n : Int) (w : World) : (method 453 227 (.agg #[.string s, .int .i64 n]) "loop.example/scot/impl.look").run Tryz.prog w = .ok (262, .agg #[.string s, .int .i64 n]) w := by kernel_rfl
theorem mLookNum (s : ByteArray) (n : Int) (w : World) : (method 453 221 (.agg #[.string s, .int .i64 n]) "loop.example/scot/impl.look").run Tryz.prog w = .ok (262, .agg #[.string s, .int .i64 n]) w := by kernel_rfl
theorem mLookMeter (s : ByteArray) (n : Int) (w : World) : (method 453 222 (.agg #[.string s, .int .i64 n]) "loop.example/scot/impl.look").run Tryz.prog w = .ok (262, .agg #[.string s, .int .i64 n]) w := by kernel_rfl


/-- the part that most kinds share -/
def lookV (k : Int) : Value := .agg #[.string (wordK k), .int .i64 (kidsK k)]
theorem mLook {k : Int} (h : 1 ≤ k ∧ k ≤ 10) (w : World) : (method 453 (typeK k) (recK k) "loop.example/scot/impl.look").run Tryz.prog w = .ok (262, lookV k) w := by
  rcases cases10 h with rfl | rfl | rfl | rfl | rfl | rfl | rfl | rfl | rfl | rfl
  · exact mLookNum _ _ w
  · exact mLookMeter _ _ w
  · exact mLookPair _ _ _ w
  · exact mLookPair _ _ _ w
  · exact mLookPair _ _ _ w
  · exact mLookPart _ _ w
  · exact mLookPair _ _ _ w
  · exact mLookPair _ _ _ w
  · exact mLookIf _ _ w
  · exact mLookSteps _ _ w
theorem kindV_in {k : Int} (h : 1 ≤ k ∧ k ≤ 10) : kindV k = .iface (typeK k) (recK k) := if_pos h
theorem kindV_out {k : Int} (h : ¬ (1 ≤ k ∧ k ≤ 10)) : kindV k = .nilIface := if_neg h

/-- the kind that a word heads, or 0 -/
def opK (s : ByteArray) : Int := if wordK 3 = s then 3 else if wordK 4 = s then 4 else if wordK 5 = s then 5 else if wordK 6 = s then 6 else if wordK 7 = s then 7 else if wordK 8 = s then 8 else if wordK 9 = s then 9 else if wordK 10 = s then 10 else 0
theorem opK_hit {s : ByteArray} {n : Int} (h1 : 3 ≤ n) (h2 : n ≤ 10) (hd : ∀ j, 3 ≤ j → j < n → wordK j ≠ s) (he : wordK n = s) : opK s = n := by
  unfold opK
  by_cases e3 : n = 3
  · subst e3; rw [if_pos he]
  rw [if_neg (hd 3 (by omega) (by omega))]
  by_cases e4 : n = 4
  · subst e4; rw [if_pos he]
  rw [if_neg (hd 4 (by omega) (by omega))]
  by_cases e5 : n = 5
  · subst e5; rw [if_pos he]
  rw [if_neg (hd 5 (by omega) (by omega))]
  by_cases e6 : n = 6
  · subst e6; rw [if_pos he]
  rw [if_neg (hd 6 (by omega) (by omega))]
  by_cases e7 : n = 7
  · subst e7; rw [if_pos he]
  rw [if_neg (hd 7 (by omega) (by omega))]
  by_cases e8 : n = 8
  · subst e8; rw [if_pos he]
  rw [if_neg (hd 8 (by omega) (by omega))]
  by_cases e9 : n = 9
  · subst e9; rw [if_pos he]
  rw [if_neg (hd 9 (by omega) (by omega))]
  obtain rfl : n = 10 := by omega
  rw [if_pos he]
theorem opK_none {s : ByteArray} (hd : ∀ j, 3 ≤ j → j < 11 → wordK j ≠ s) : opK s = 0 := by
  unfold opK
  rw [if_neg (hd 3 (by omega) (by omega)), if_neg (hd 4 (by omega) (by omega)), if_neg (hd 5 (by omega) (by omega)), if_neg (hd 6 (by omega) (by omega)), if_neg (hd 7 (by omega) (by omega)), if_neg (hd 8 (by omega) (by omega)), if_neg (hd 9 (by omega) (by omega)), if_neg (hd 10 (by omega) (by omega))]

theorem ext_toList {s t : ByteArray} (h : s.toList = t.toList) : s = t := by
  rw [Lib.toList_data, Lib.toList_data] at h
  cases s; cases t
  simp only at h
  rw [Array.toList_inj.1 h]
theorem eqB {s t : ByteArray} (h : s = t) : (s.toList == t.toList) = true := by rw [h]; simp
theorem neB {s t : ByteArray} (h : s ≠ t) : (s.toList == t.toList) = false := by
  rw [beq_eq_false_iff_ne]; intro e; exact h (ext_toList e)

set_option maxRecDepth 20000 in
set_option maxHeartbeats 1000000 in
/-- impl.kindNamed -/
theorem namedI (s : ByteArray) (w : World) : Calls Tryz.prog 115 #[.string s] w fun e w' => e = .returned (.int .i64 (opK s)) ∧ Below w.heap.size w w' := by
  generalize hr : opK s = r
  have HR := hide hr; clear hr
  go_enter Tryz.func115, Tryz.ntmps115
  go_wp2
  go_loopw [3] (fun i wr => ∃ n : Int, 3 ≤ n ∧ n ≤ 11 ∧ i = .int .i64 n ∧ Hid (∀ j, 3 ≤ j → j < n → wordK j ≠ s) ∧ Hid (Below w.heap.size w wr)) (fun i _ => 11 - (intOf i).toNat)
  case atStart => exact ⟨3, by omega, by omega, rfl, hide (fun j h1 h2 => by omega), hide (Below.refl _ _)⟩
  case round =>
    obtain ⟨n, hn3, hn11, rfl, hd, hb⟩ := hrel
    by_cases hlt : n ≤ 10
    · have hk : 1 ≤ n ∧ n ≤ 10 := ⟨by omega, hlt⟩
      have m1 := mLook hk
      have fl : ∀ (w : World), (Instr.field 192 (.agg #[.string (wordK n), .int .i64 (kidsK n)]) 0).run Tryz.prog w = .ok (.string (wordK n)) w := fun w => by kernel_rfl
      go_wp2_with (fail)
      refine (kindOf _ _).mono ?_
      rintro e w1 ⟨rfl, rfl⟩
      rw [kindV_in hk]
      go_wp2_with (fail)
      refine (look _ _ _).mono ?_
      rintro e w2 ⟨rfl, hb2⟩
      have HB := hide (below_trans (unhide hb) hb2)
      clear hb hb2
      by_cases he : wordK n = s
      · have hr : r = n := (unhide HR).symm.trans (opK_hit hn3 hlt (unhide hd) he)
        subst hr
        have hx := eqB he
        clear he
        go_wp2
        go_ret
        exact ⟨rfl, unhide HB⟩
      · have hd' : Hid (∀ j, 3 ≤ j → j < n + 1 → wordK j ≠ s) := hide (fun j h1 h2 => by
          by_cases e : j < n
          · exact unhide hd j h1 e
          · obtain rfl : j = n := by omega
            exact he)
        have hx := neB he
        clear he
        go_wp2
        exact ⟨⟨n + 1, by omega, by omega, rfl, hd', HB⟩, by simp [intOf]; omega⟩
    · have hr : r = 0 := (unhide HR).symm.trans (opK_none (fun j h1 h2 => unhide hd j h1 (by omega)))
      subst hr
      go_wp2
      go_ret
      exact ⟨rfl, unhide hb⟩

/-- a word of letters -/
def lettersB (l : List UInt8) : Bool := l.all fun c => decide (97 ≤ (c.toNat : Int) ∧ (c.toNat : Int) ≤ 122)
def tierW : ByteArray := ⟨#[116, 105, 101, 114]⟩
/-- RuleName -/
def nameB (s : ByteArray) : Bool := decide (1 ≤ s.size ∧ s.size ≤ 8) && lettersB s.data.toList && decide (opK s = 0) && decide (s ≠ tierW)

theorem nameB_size {s : ByteArray} (h : ¬ (1 ≤ s.size ∧ s.size ≤ 8)) : nameB s = false := by unfold nameB; rw [decide_eq_false h]; simp
theorem nameB_letter {s : ByteArray} {k : Nat} (hk : k < s.size) (h : ¬ (97 ≤ (s[k].toNat : Int) ∧ (s[k].toNat : Int) ≤ 122)) : nameB s = false := by
  have : lettersB s.data.toList = false := by
    unfold lettersB
    rw [List.all_eq_false]
    refine ⟨s[k], ?_, ?_⟩
    · exact Array.getElem_mem_toList (xs := s.data) hk
    · rw [decide_eq_false h]; simp
  unfold nameB; rw [this]; simp
theorem nameB_rest {s : ByteArray} (h : 1 ≤ s.size ∧ s.size ≤ 8) (hl : ∀ j (hj : j < s.size), 97 ≤ (s[j].toNat : Int) ∧ (s[j].toNat : Int) ≤ 122) : nameB s = (decide (opK s = 0) && decide (s ≠ tierW)) := by
  have : lettersB s.data.toList = true := by
    unfold lettersB
    rw [List.all_eq_true]
    intro c hc
    obtain ⟨j, hj, rfl⟩ := List.getElem_of_mem hc
    exact decide_eq_true (hl j (by simpa using hj))
  unfold nameB; rw [this, decide_eq_true h]; simp

set_option maxHeartbeats 1000000 in
/-- impl.RuleName -/
theorem nameI (s : ByteArray) (w : World) (hs : s.size ≤ maxLen) : Calls Tryz.prog 92 #[.string s] w fun e w' => e = .returned (.bool (nameB s)) ∧ Below w.heap.size w w' := by
  unfold maxLen at hs
  by_cases hsz : 1 ≤ s.size ∧ s.size ≤ 8
  · obtain ⟨z1, z2⟩ := hsz
    have y1 : (1 : Int) ≤ (s.size : Int) := by omega
    have y2 : (s.size : Int) ≤ 8 := by omega
    generalize hr : nameB s = r
    have HR := hide hr; clear hr
    go_enter Tryz.func92, Tryz.ntmps92
    go_wp2
    go_loop [14] (fun i => ∃ k : Nat, k ≤ s.size ∧ i = .int .i64 k ∧ Hid (∀ j (hj : j < s.size), j < k → 97 ≤ (s[j].toNat : Int) ∧ (s[j].toNat : Int) ≤ 122)) (fun i => s.size - (intOf i).toNat)
    case atStart => exact ⟨0, Nat.zero_le _, rfl, hide (fun j hj h => by omega)⟩
    case round =>
      obtain ⟨k, hk, rfl, hd⟩ := hrel
      by_cases hlt : k < s.size
      · by_cases hc : 97 ≤ (s[k].toNat : Int) ∧ (s[k].toNat : Int) ≤ 122
        · have hd' : Hid (∀ j (hj : j < s.size), j < k + 1 → 97 ≤ (s[j].toNat : Int) ∧ (s[j].toNat : Int) ≤ 122) := hide (fun j hj h => by
            by_cases e : j < k
            · exact unhide hd j hj e
            · obtain rfl : j = k := by omega
              exact hc)
          obtain ⟨a1, a2⟩ := hc
          go_wp2
          exact ⟨⟨k + 1, by omega, by go_num, hd'⟩, by simp [intOf]; omega⟩
        · have hr : r = false := (unhide HR).symm.trans (nameB_letter hlt hc)
          subst hr
          by_cases h97 : (s[k].toNat : Int) < 97
          · go_wp2
            go_ret
            exact ⟨rfl, Below.refl _ _⟩
          · have h122 : 122 < (s[k].toNat : Int) := by omega
            go_wp2
            go_ret
            exact ⟨rfl, Below.refl _ _⟩
      · have hr : r = (decide (opK s = 0) && decide (s ≠ tierW)) := (unhide HR).symm.trans (nameB_rest ⟨z1, z2⟩ (fun j hj => unhide hd j hj (by omega)))
        by_cases ht : s = tierW
        · have e : (decide (opK s = 0) && decide (s ≠ tierW)) = false := by simp [ht]
          rw [e] at hr
          subst hr
          have hx : (!s.toList == [116, 105, 101, 114]) = false := by rw [ht, Lib.toList_data]; rfl
          clear e ht
          go_wp2_with (fail)
          go_ret
          exact ⟨rfl, Below.refl _ _⟩
        · have e : (decide (opK s = 0) && decide (s ≠ tierW)) = decide (opK s = 0) := by simp [ht]
          rw [e] at hr
          subst hr
          have hx : (!s.toList == [116, 105, 101, 114]) = true := by
            have : s.toList ≠ tierW.toList := fun h => ht (ext_toList h)
            rw [Lib.toList_data tierW] at this
            simpa [tierW] using this
          clear e ht
          go_wp2_with (fail)
          refine (namedI s _).mono ?_
          rintro e w1 ⟨rfl, hb1⟩
          have HB := hide hb1
          clear hb1
          have hd : (opK s == 0) = decide (opK s = 0) := rfl
          go_wp2
          go_ret
          exact ⟨rfl, unhide HB⟩
  · rw [nameB_size hsz]
    by_cases z1 : (s.size : Int) < 1
    · go_enter Tryz.func92, Tryz.ntmps92
      go_wp2
      go_ret
      exact ⟨rfl, Below.refl _ _⟩
    · have z2 : (8 : Int) < s.size := by omega
      go_enter Tryz.func92, Tryz.ntmps92
      go_wp2
      go_ret
      exact ⟨rfl, Below.refl _ _⟩

set_option maxRecDepth 20000 in
set_option maxHeartbeats 1000000 in
/-- spec.l2Op -/
theorem opS (s : ByteArray) (w : World) : Calls Tryz.prog 77 #[.string s] w fun e w' => e = .returned (.int .i64 (opK s)) ∧ Below w.heap.size w w' := by
  generalize hr : opK s = r
  have HR := hide hr; clear hr
  have hcell : ∀ k : Nat, k < 8 → (w.alloc (.cells #[.string (wordK 3), .string (wordK 4), .string (wordK 5), .string (wordK 6), .string (wordK 7), .string (wordK 8), .string (wordK 9), .string (wordK 10)] 9)).cell? ⟨w.heap.size, k, none⟩ = some (.string (wordK (k + 3))) := fun k hk => by
    have e1 := (MapKept.heap_alloc w (.cells #[.string (wordK 3), .string (wordK 4), .string (wordK 5), .string (wordK 6), .string (wordK 7), .string (wordK 8), .string (wordK 9), .string (wordK 10)] 9)).1
    simp only [World.cell?]
    rw [e1]
    rcases (by omega : k = 0 ∨ k = 1 ∨ k = 2 ∨ k = 3 ∨ k = 4 ∨ k = 5 ∨ k = 6 ∨ k = 7) with rfl | rfl | rfl | rfl | rfl | rfl | rfl | rfl <;> rfl
  have HCE := hide hcell
  clear hcell
  go_enter Tryz.func77, Tryz.ntmps77
  go_wp2
  go_loop [4] (fun i => ∃ k : Nat, k ≤ 8 ∧ i = .int .i64 k ∧ Hid (∀ j : Int, 3 ≤ j → j < k + 3 → wordK j ≠ s)) (fun i => 8 - (intOf i).toNat)
  case atStart => exact ⟨0, Nat.zero_le _, rfl, hide (fun j h1 h2 => by omega)⟩
  case round =>
    obtain ⟨k, hk, rfl, hd⟩ := hrel
    by_cases hlt : k < 8
    · have hc := unhide HCE k hlt
      have hc' : (w.alloc (Obj.cells #[Value.string ⟨#[97, 100, 100]⟩, Value.string ⟨#[115, 117, 98]⟩, .string ⟨#[116, 105, 109, 101, 115]⟩, .string ⟨#[112, 97, 114, 116]⟩, .string ⟨#[109, 105, 110]⟩, .string ⟨#[109, 97, 120]⟩, .string ⟨#[105, 102]⟩, .string ⟨#[115, 116, 101, 112, 115]⟩] 9)).cell? ⟨w.heap.size, k, none⟩ = some (.string (wordK (k + 3))) := hc
      clear hc
      by_cases he : wordK (k + 3) = s
      · have hr : r = k + 3 := (unhide HR).symm.trans (opK_hit (by omega) (by omega) (unhide hd) he)
        subst hr
        have hx := eqB he
        clear he
        generalize wordK (k + 3) = t at *
        go_wp2
        go_ret
        exact ⟨rfl, (Below.refl _ _).alloc (Nat.le_refl _) _⟩
      · have hd' : Hid (∀ j : Int, 3 ≤ j → j < ((k + 1 : Nat) : Int) + 3 → wordK j ≠ s) := hide (fun j h1 h2 => by
          by_cases e : j < k + 3
          · exact unhide hd j h1 e
          · obtain rfl : j = k + 3 := by omega
            exact he)
        have hx := neB he
        clear he
        generalize wordK (k + 3) = t at *
        go_wp2
        exact ⟨⟨k + 1, by omega, by go_num, hd'⟩, by simp [intOf]; omega⟩
    · have hr : r = 0 := (unhide HR).symm.trans (opK_none (fun j h1 h2 => unhide hd j h1 (by omega)))
      subst hr
      go_wp2
      go_ret
      exact ⟨rfl, (Below.refl _ _).alloc (Nat.le_refl _) _⟩

set_option maxHeartbeats 1000000 in
/-- spec.RuleName -/
theorem nameS (s : ByteArray) (w : World) (hs : s.size ≤ maxLen) : Calls Tryz.prog 49 #[.string s] w fun e w' => e = .returned (.bool (nameB s)) ∧ Below w.heap.size w w' := by
  unfold maxLen at hs
  by_cases hsz : 1 ≤ s.size ∧ s.size ≤ 8
  · obtain ⟨z1, z2⟩ := hsz
    have y1 : (1 : Int) ≤ (s.size : Int) := by omega
    have y2 : (s.size : Int) ≤ 8 := by omega
    generalize hr : nameB s = r
    have HR := hide hr; clear hr
    go_enter Tryz.func49, Tryz.ntmps49
    go_wp2
    go_loop [3] (fun i => ∃ k : Nat, k ≤ s.size ∧ i = .int .i64 k ∧ Hid (∀ j (hj : j < s.size), j < k → 97 ≤ (s[j].toNat : Int) ∧ (s[j].toNat : Int) ≤ 122)) (fun i => s.size - (intOf i).toNat)
    case atStart => exact ⟨0, Nat.zero_le _, rfl, hide (fun j hj h => by omega)⟩
    case round =>
      obtain ⟨k, hk, rfl, hd⟩ := hrel
      by_cases hlt : k < s.size
      · by_cases hc : 97 ≤ (s[k].toNat : Int) ∧ (s[k].toNat : Int) ≤ 122
        · have hd' : Hid (∀ j (hj : j < s.size), j < k + 1 → 97 ≤ (s[j].toNat : Int) ∧ (s[j].toNat : Int) ≤ 122) := hide (fun j hj h => by
            by_cases e : j < k
            · exact unhide hd j hj e
            · obtain rfl : j = k := by omega
              exact hc)
          obtain ⟨a1, a2⟩ := hc
          go_wp2
          exact ⟨⟨k + 1, by omega, by go_num, hd'⟩, by simp [intOf]; omega⟩
        · have hr : r = false := (unhide HR).symm.trans (nameB_letter hlt hc)
          subst hr
          by_cases h97 : (s[k].toNat : Int) < 97
          · go_wp2
            go_ret
            exact ⟨rfl, Below.refl _ _⟩
          · have h122 : 122 < (s[k].toNat : Int) := by omega
            go_wp2
            go_ret
            exact ⟨rfl, Below.refl _ _⟩
      · have hr : r = (decide (opK s = 0) && decide (s ≠ tierW)) := (unhide HR).symm.trans (nameB_rest ⟨z1, z2⟩ (fun j hj => unhide hd j hj (by omega)))
        go_wp2_with (fail)
        refine (opS s _).mono ?_
        rintro e w1 ⟨rfl, hb1⟩
        have HB := hide hb1
        clear hb1
        by_cases ho : opK s = 0
        · have h1 : (opK s == 0) = true := by simp [ho]
          by_cases ht : s = tierW
          · have e : (decide (opK s = 0) && decide (s ≠ tierW)) = false := by simp [ht]
            rw [e] at hr
            subst hr
            have hx : (!s.toList == [116, 105, 101, 114]) = false := by rw [ht, Lib.toList_data]; rfl
            clear e ht ho
            go_wp2
            go_ret
            exact ⟨rfl, unhide HB⟩
          · have e : (decide (opK s = 0) && decide (s ≠ tierW)) = true := by simp [ht, ho]
            rw [e] at hr
            subst hr
            have hx : (!s.toList == [116, 105, 101, 114]) = true := by
              have : s.toList ≠ tierW.toList := fun h => ht (ext_toList h)
              rw [Lib.toList_data tierW] at this
              simpa [tierW] using this
            clear e ht ho
            go_wp2
            go_ret
            exact ⟨rfl, unhide HB⟩
        · have h1 : (opK s == 0) = false := by simp [ho]
          have e : (decide (opK s = 0) && decide (s ≠ tierW)) = false := by simp [ho]
          rw [e] at hr
          subst hr
          clear e ho
          go_wp2
          go_ret
          exact ⟨rfl, unhide HB⟩
  · rw [nameB_size hsz]
    by_cases z1 : (s.size : Int) < 1
    · go_enter Tryz.func49, Tryz.ntmps49
      go_wp2
      go_ret
      exact ⟨rfl, Below.refl _ _⟩
    · have z2 : (8 : Int) < s.size := by omega
      go_enter Tryz.func49, Tryz.ntmps49
      go_wp2
      go_ret
      exact ⟨rfl, Below.refl _ _⟩

end Go.Proofs.YtnchgeiinkaefaaGreatDoor.Kinds
end

section
/-
  An expression that is right but for its kids (spec.l2Kids, spec.l2Node).
-/
namespace Go.Proofs.YtnchgeiinkaefaaGreatDoor.Rule
set_option linter.unusedVariables false
open Go.RowKit Tiers
open Kinds hiding hide unhide below_trans ext_toList

/-- all but the kids is as the kind has it -/
def fitsB (k n : Int) (m : ByteArray) (ts : List T) : Bool :=
  if k = 1 then decide (-1000000000 ≤ n ∧ n ≤ 1000000000) && decide (m.size = 0) && decide (ts.length = 0)
  else if k = 2 then nameB m && decide (n = 0) && decide (ts.length = 0)
  else if k = 6 then decide (0 ≤ n ∧ n ≤ 1000000) && decide (m.size = 0) && decide (ts.length = 0)
  else if k = 10 then rightB ts && decide (n = 0) && decide (m.size = 0)
  else decide (n = 0) && decide (m.size = 0) && decide (ts.length = 0)
/-- an expression is right, but for its kids -/
def nodeB (k n : Int) (m : ByteArray) (nk : Nat) (ts : List T) : Bool := decide (1 ≤ k ∧ k ≤ 10 ∧ (nk : Int) = kidsK k) && fitsB k n m ts

theorem kidsK_in {k : Int} (h : 0 ≤ kidsK k) : 1 ≤ k ∧ k ≤ 10 := by
  unfold kidsK at h
  split at h
  · omega
  split at h
  · omega
  split at h
  · omega
  split at h
  · omega
  · omega
theorem nodeB_kids {k n : Int} {m : ByteArray} {nk : Nat} {ts : List T} (h : (nk : Int) ≠ kidsK k) : nodeB k n m nk ts = false := by
  unfold nodeB; rw [decide_eq_false (by rintro ⟨_, _, h3⟩; exact h h3)]; rfl
theorem nodeB_fits {k n : Int} {m : ByteArray} {nk : Nat} {ts : List T} (h : (nk : Int) = kidsK k) : nodeB k n m nk ts = fitsB k n m ts := by
  have := kidsK_in (k := k) (by omega)
  unfold nodeB; rw [decide_eq_true ⟨this.1, this.2, h⟩]; rfl
theorem nameB_empty {m : ByteArray} (h : m.size = 0) : nameB m = false := nameB_size (by omega)
theorem rightB_empty {ts : List T} (h : ts.length = 0) : rightB ts = false := rightB_size (by omega)
theorem fits_tiers {k n : Int} {m : ByteArray} {ts : List T} (h : ¬ (k = 10 ↔ 0 < ts.length)) : fitsB k n m ts = false := by
  unfold fitsB
  by_cases h10 : k = 10
  · subst h10
    have : ts.length = 0 := by omega
    simp [rightB_empty this]
  · have : ¬ ts.length = 0 := by omega
    split
    · simp [this]
    split
    · simp [this]
    split
    · simp [this]
    · simp [this]
theorem fits_meter {k n : Int} {m : ByteArray} {ts : List T} (h : ¬ (k = 2 ↔ m.size ≠ 0)) : fitsB k n m ts = false := by
  unfold fitsB
  by_cases h2 : k = 2
  · subst h2
    have : m.size = 0 := by omega
    simp [nameB_empty this]
  · have : ¬ m.size = 0 := by omega
    rw [decide_eq_false this]
    simp [h2]

set_option maxHeartbeats 1000000 in
/-- spec.l2Kids -/
theorem kidsS (k : Int) (w : World) : Calls Tryz.prog 82 #[.int .i64 k] w fun e w' => e = .returned (.int .i64 (kidsK k)) ∧ w' = w := by
  by_cases h : 1 ≤ k ∧ k ≤ 10
  · rcases cases10 h with rfl | rfl | rfl | rfl | rfl | rfl | rfl | rfl | rfl | rfl
    all_goals
      clear h
      go_enter Tryz.func82, Tryz.ntmps82
      go_wp2
      go_ret
      exact ⟨rfl, rfl⟩
  · have e : kidsK k = -1 := by
      unfold kidsK
      rw [if_neg (by omega), if_neg (by omega), if_neg (by omega), if_neg (by omega)]
    rw [e]
    have n1 : (k == 1) = false := beq_eq_false_iff_ne.2 (by omega)
    have n2 : (k == 2) = false := beq_eq_false_iff_ne.2 (by omega)
    have n6 : (k == 6) = false := beq_eq_false_iff_ne.2 (by omega)
    have n9 : (k == 9) = false := beq_eq_false_iff_ne.2 (by omega)
    have n10 : (k == 10) = false := beq_eq_false_iff_ne.2 (by omega)
    clear e
    by_cases h3 : 3 ≤ k
    · have h8 : ¬ k ≤ 8 := by omega
      clear h
      go_enter Tryz.func82, Tryz.ntmps82
      go_wp2
      go_ret
      exact ⟨rfl, rfl⟩
    · clear h
      go_enter Tryz.func82, Tryz.ntmps82
      go_wp2
      go_ret
      exact ⟨rfl, rfl⟩

theorem isEmpty_yes {m : ByteArray} (h : m.size = 0) : m.toList.isEmpty = true := by
  rw [Lib.toList_data, List.isEmpty_iff]
  exact List.length_eq_zero_iff.1 (by simpa using h)
theorem isEmpty_no {m : ByteArray} (h : m.size ≠ 0) : m.toList.isEmpty = false := by
  rw [Lib.toList_data, List.isEmpty_eq_false_iff]
  exact fun e => h (by have := congrArg List.length e; simpa using this)

set_option maxHeartbeats 1000000 in
theorem nodeS_bad (k n : Int) (m : ByteArray) (ka ta : Option Addr) (nk kc tn tc : Nat) (w : World) (h1 : nk ≤ maxLen) (h2 : tn ≤ maxLen) (h : (nk : Int) ≠ kidsK k ∨ ¬ (k = 10 ↔ 0 < tn) ∨ ¬ (k = 2 ↔ m.size ≠ 0)) :
    Calls Tryz.prog 112 #[.agg #[.int .i64 k, .int .i64 n, .string m, .slice ka nk kc, .slice ta tn tc]] w fun e w' => e = .returned (.bool false) ∧ Below w.heap.size w w' := by
  unfold maxLen at h1 h2
  by_cases hn : (nk : Int) = kidsK k
  · have b1 : ((nk : Int) != kidsK k) = false := by simp [hn]
    have h' := h.resolve_left (fun e => e hn)
    clear h hn
    by_cases k10 : k = 10
    all_goals by_cases t0 : 0 < tn
    all_goals first | (have b2 : (k == 10) = true := beq_iff_eq.2 (by omega)) | (have b2 : (k == 10) = false := beq_eq_false_iff_ne.2 (by omega))
    all_goals first | (have b3 : decide (0 < tn) = true := decide_eq_true (by omega)) | (have b3 : decide (0 < tn) = false := decide_eq_false (by omega))
    all_goals by_cases k2 : k = 2
    all_goals by_cases m0 : m.size = 0
    all_goals first | (exfalso; omega) | skip
    all_goals first | (have b4 : (k == 2) = true := beq_iff_eq.2 (by omega)) | (have b4 : (k == 2) = false := beq_eq_false_iff_ne.2 (by omega))
    all_goals first | (have b5 := isEmpty_yes m0) | (have b5 := isEmpty_no m0)
    all_goals clear k10 t0 k2 m0 h'
    all_goals go_enter Tryz.func112, Tryz.ntmps112
    all_goals go_wp2
    all_goals go_quiet ((go_at_call 82; exact Calls.quiet_of_same (kidsS _ _)))
    all_goals go_wp2
    all_goals go_ret
    all_goals exact ⟨rfl, below_drewN' (below_alloc _ _) _⟩
  · have b1 : ((nk : Int) != kidsK k) = true := bne_iff_ne.2 hn
    clear h hn
    go_enter Tryz.func112, Tryz.ntmps112
    go_wp2
    go_quiet ((go_at_call 82; exact Calls.quiet_of_same (kidsS _ _)))
    go_wp2
    go_ret
    exact ⟨rfl, below_drewN' (below_alloc _ _) _⟩

set_option maxHeartbeats 2000000 in
theorem nodeS_ok (k n : Int) (m : ByteArray) (ka ta : Option Addr) (nk kc tc : Nat) (ts : List T) (w : World) (h1 : nk ≤ maxLen) (z1 : m.size ≤ maxLen) (z2 : ts.length ≤ 1048576) (hT : TR w (.slice ta ts.length tc) ts) (hn : (nk : Int) = kidsK k) (ht : k = 10 ↔ 0 < ts.length) (hm : k = 2 ↔ m.size ≠ 0) :
    Calls Tryz.prog 112 #[.agg #[.int .i64 k, .int .i64 n, .string m, .slice ka nk kc, .slice ta ts.length tc]] w fun e w' => e = .returned (.bool (fitsB k n m ts)) ∧ Below w.heap.size w w' := by
  have HT := hide hT
  clear hT
  unfold maxLen at h1
  have hk := kidsK_in (k := k) (by omega)
  rcases cases10 hk with rfl | rfl | rfl | rfl | rfl | rfl | rfl | rfl | rfl | rfl
  · -- 1
    have b3 : decide (0 < ts.length) = false := decide_eq_false (by omega)
    have m0 : m.size = 0 := by omega
    have b5 := isEmpty_yes m0
    have t0 : ts.length = 0 := by omega
    by_cases r1 : -1000000000 ≤ n
    · by_cases r2 : n ≤ 1000000000
      · have e : fitsB 1 n m ts = true := by simp [fitsB, m0, t0]; omega
        rw [e]
        clear e m0 t0 ht hm
        have b1 : (((nk : Int)) != kidsK 1) = false := by simp [hn]
        clear hn
        go_enter Tryz.func112, Tryz.ntmps112
        go_wp2
        go_quiet ((go_at_call 82; exact Calls.quiet_of_same (kidsS _ _)))
        go_wp2_with (fail)
        go_ret
        exact ⟨rfl, below_drewN' (below_alloc _ _) _⟩
      · have e : fitsB 1 n m ts = false := by simp [fitsB, m0, t0]; omega
        rw [e]
        have r3 : decide (n ≤ 1000000000) = false := decide_eq_false r2
        clear e m0 t0 ht hm
        have b1 : (((nk : Int)) != kidsK 1) = false := by simp [hn]
        clear hn
        go_enter Tryz.func112, Tryz.ntmps112
        go_wp2
        go_quiet ((go_at_call 82; exact Calls.quiet_of_same (kidsS _ _)))
        go_wp2_with (fail)
        go_ret
        exact ⟨rfl, below_drewN' (below_alloc _ _) _⟩
    · have e : fitsB 1 n m ts = false := by simp [fitsB, m0, t0]; omega
      rw [e]
      clear e m0 t0 ht hm
      have b1 : (((nk : Int)) != kidsK 1) = false := by simp [hn]
      clear hn
      go_enter Tryz.func112, Tryz.ntmps112
      go_wp2
      go_quiet ((go_at_call 82; exact Calls.quiet_of_same (kidsS _ _)))
      go_wp2_with (fail)
      go_ret
      exact ⟨rfl, below_drewN' (below_alloc _ _) _⟩
  · -- 2
    have b3 : decide (0 < ts.length) = false := decide_eq_false (by omega)
    have m0 : m.size ≠ 0 := by omega
    have b5 := isEmpty_no m0
    have t0 : ts.length = 0 := by omega
    by_cases n0 : n = 0
    · have e : fitsB 2 n m ts = nameB m := by simp [fitsB, n0, t0]
      rw [e]
      have b6 : (n == 0) = true := by simp [n0]
      clear e m0 t0 ht hm n0
      have b1 : (((nk : Int)) != kidsK 2) = false := by simp [hn]
      clear hn
      go_enter Tryz.func112, Tryz.ntmps112
      go_wp2
      go_quiet ((go_at_call 82; exact Calls.quiet_of_same (kidsS _ _)))
      go_wp2_with (fail)
      refine (nameS m _ z1).mono ?_
      rintro e w1 ⟨rfl, hb1⟩
      have HB := hide (below_trans (below_drewN' (below_alloc _ _) _) hb1)
      clear hb1
      go_wp2_with (fail)
      go_ret
      exact ⟨rfl, unhide HB⟩
    · have e : fitsB 2 n m ts = false := by simp [fitsB, n0]
      rw [e]
      have b6 : (n == 0) = false := by simp [n0]
      clear e m0 t0 ht hm n0
      have b1 : (((nk : Int)) != kidsK 2) = false := by simp [hn]
      clear hn
      go_enter Tryz.func112, Tryz.ntmps112
      go_wp2
      go_quiet ((go_at_call 82; exact Calls.quiet_of_same (kidsS _ _)))
      go_wp2_with (fail)
      go_ret
      exact ⟨rfl, below_drewN' (below_alloc _ _) _⟩
  · -- 3
    have b3 : decide (0 < ts.length) = false := decide_eq_false (by omega)
    have m0 : m.size = 0 := by omega
    have b5 := isEmpty_yes m0
    have t0 : ts.length = 0 := by omega
    have e : fitsB 3 n m ts = (n == 0) := by rw [Bool.eq_iff_iff]; simp [fitsB, m0, t0]
    rw [e]
    clear e m0 t0 ht hm
    have b1 : (((nk : Int)) != kidsK 3) = false := by simp [hn]
    clear hn
    go_enter Tryz.func112, Tryz.ntmps112
    go_wp2
    go_quiet ((go_at_call 82; exact Calls.quiet_of_same (kidsS _ _)))
    go_wp2_with (fail)
    go_ret
    exact ⟨rfl, below_drewN' (below_alloc _ _) _⟩
  · -- 4
    have b3 : decide (0 < ts.length) = false := decide_eq_false (by omega)
    have m0 : m.size = 0 := by omega
    have b5 := isEmpty_yes m0
    have t0 : ts.length = 0 := by omega
    have e : fitsB 4 n m ts = (n == 0) := by rw [Bool.eq_iff_iff]; simp [fitsB, m0, t0]
    rw [e]
    clear e m0 t0 ht hm
    have b1 : (((nk : Int)) != kidsK 4) = false := by simp [hn]
    clear hn
    go_enter Tryz.func112, Tryz.ntmps112
    go_wp2
    go_quiet ((go_at_call 82; exact Calls.quiet_of_same (kidsS _ _)))
    go_wp2_with (fail)
    go_ret
    exact ⟨rfl, below_drewN' (below_alloc _ _) _⟩
  · -- 5
    have b3 : decide (0 < ts.length) = false := decide_eq_false (by omega)
    have m0 : m.size = 0 := by omega
    have b5 := isEmpty_yes m0
    have t0 : ts.length = 0 := by omega
    have e : fitsB 5 n m ts = (n == 0) := by rw [Bool.eq_iff_iff]; simp [fitsB, m0, t0]
    rw [e]
    clear e m0 t0 ht hm
    have b1 : (((nk : Int)) != kidsK 5) = false := by simp [hn]
    clear hn
    go_enter Tryz.func112, Tryz.ntmps112
    go_wp2
    go_quiet ((go_at_call 82; exact Calls.quiet_of_same (kidsS _ _)))
    go_wp2_with (fail)
    go_ret
    exact ⟨rfl, below_drewN' (below_alloc _ _) _⟩
  · -- 6
    have b3 : decide (0 < ts.length) = false := decide_eq_false (by omega)
    have m0 : m.size = 0 := by omega
    have b5 := isEmpty_yes m0
    have t0 : ts.length = 0 := by omega
    by_cases r1 : 0 ≤ n
    · by_cases r2 : n ≤ 1000000
      · have e : fitsB 6 n m ts = true := by simp [fitsB, m0, t0]; omega
        rw [e]
        clear e m0 t0 ht hm
        have b1 : (((nk : Int)) != kidsK 6) = false := by simp [hn]
        clear hn
        go_enter Tryz.func112, Tryz.ntmps112
        go_wp2
        go_quiet ((go_at_call 82; exact Calls.quiet_of_same (kidsS _ _)))
        go_wp2_with (fail)
        go_ret
        exact ⟨rfl, below_drewN' (below_alloc _ _) _⟩
      · have e : fitsB 6 n m ts = false := by simp [fitsB, m0, t0]; omega
        rw [e]
        have r3 : decide (n ≤ 1000000) = false := decide_eq_false r2
        clear e m0 t0 ht hm
        have b1 : (((nk : Int)) != kidsK 6) = false := by simp [hn]
        clear hn
        go_enter Tryz.func112, Tryz.ntmps112
        go_wp2
        go_quiet ((go_at_call 82; exact Calls.quiet_of_same (kidsS _ _)))
        go_wp2_with (fail)
        go_ret
        exact ⟨rfl, below_drewN' (below_alloc _ _) _⟩
    · have e : fitsB 6 n m ts = false := by simp [fitsB, m0, t0]; omega
      rw [e]
      clear e m0 t0 ht hm
      have b1 : (((nk : Int)) != kidsK 6) = false := by simp [hn]
      clear hn
      go_enter Tryz.func112, Tryz.ntmps112
      go_wp2
      go_quiet ((go_at_call 82; exact Calls.quiet_of_same (kidsS _ _)))
      go_wp2_with (fail)
      go_ret
      exact ⟨rfl, below_drewN' (below_alloc _ _) _⟩
  · -- 7
    have b3 : decide (0 < ts.length) = false := decide_eq_false (by omega)
    have m0 : m.size = 0 := by omega
    have b5 := isEmpty_yes m0
    have t0 : ts.length = 0 := by omega
    have e : fitsB 7 n m ts = (n == 0) := by rw [Bool.eq_iff_iff]; simp [fitsB, m0, t0]
    rw [e]
    clear e m0 t0 ht hm
    have b1 : (((nk : Int)) != kidsK 7) = false := by simp [hn]
    clear hn
    go_enter Tryz.func112, Tryz.ntmps112
    go_wp2
    go_quiet ((go_at_call 82; exact Calls.quiet_of_same (kidsS _ _)))
    go_wp2_with (fail)
    go_ret
    exact ⟨rfl, below_drewN' (below_alloc _ _) _⟩
  · -- 8
    have b3 : decide (0 < ts.length) = false := decide_eq_false (by omega)
    have m0 : m.size = 0 := by omega
    have b5 := isEmpty_yes m0
    have t0 : ts.length = 0 := by omega
    have e : fitsB 8 n m ts = (n == 0) := by rw [Bool.eq_iff_iff]; simp [fitsB, m0, t0]
    rw [e]
    clear e m0 t0 ht hm
    have b1 : (((nk : Int)) != kidsK 8) = false := by simp [hn]
    clear hn
    go_enter Tryz.func112, Tryz.ntmps112
    go_wp2
    go_quiet ((go_at_call 82; exact Calls.quiet_of_same (kidsS _ _)))
    go_wp2_with (fail)
    go_ret
    exact ⟨rfl, below_drewN' (below_alloc _ _) _⟩
  · -- 9
    have b3 : decide (0 < ts.length) = false := decide_eq_false (by omega)
    have m0 : m.size = 0 := by omega
    have b5 := isEmpty_yes m0
    have t0 : ts.length = 0 := by omega
    have e : fitsB 9 n m ts = (n == 0) := by rw [Bool.eq_iff_iff]; simp [fitsB, m0, t0]
    rw [e]
    clear e m0 t0 ht hm
    have b1 : (((nk : Int)) != kidsK 9) = false := by simp [hn]
    clear hn
    go_enter Tryz.func112, Tryz.ntmps112
    go_wp2
    go_quiet ((go_at_call 82; exact Calls.quiet_of_same (kidsS _ _)))
    go_wp2_with (fail)
    go_ret
    exact ⟨rfl, below_drewN' (below_alloc _ _) _⟩
  · -- 10
    have b3 : decide (0 < ts.length) = true := decide_eq_true (by omega)
    have m0 : m.size = 0 := by omega
    have b5 := isEmpty_yes m0
    by_cases n0 : n = 0
    · have e : fitsB 10 n m ts = rightB ts := by simp [fitsB, n0, m0]
      rw [e]
      have b6 : (n == 0) = true := by simp [n0]
      clear e m0 ht hm n0
      have b1 : (((nk : Int)) != kidsK 10) = false := by simp [hn]
      clear hn
      go_enter Tryz.func112, Tryz.ntmps112
      go_wp2
      go_quiet ((go_at_call 82; exact Calls.quiet_of_same (kidsS _ _)))
      go_wp2_with (fail)
      refine (rightS _ ts _ ((unhide HT).kept (below_drewN' (below_alloc _ _) _)) z2).mono ?_
      rintro e w1 ⟨rfl, hb1⟩
      have HB := hide (below_trans (below_drewN' (below_alloc _ _) _) hb1)
      clear hb1
      go_wp2_with (fail)
      go_ret
      exact ⟨rfl, unhide HB⟩
    · have e : fitsB 10 n m ts = false := by simp [fitsB, n0]
      rw [e]
      have b6 : (n == 0) = false := by simp [n0]
      clear e m0 ht hm n0
      have b1 : (((nk : Int)) != kidsK 10) = false := by simp [hn]
      clear hn
      go_enter Tryz.func112, Tryz.ntmps112
      go_wp2
      go_quiet ((go_at_call 82; exact Calls.quiet_of_same (kidsS _ _)))
      go_wp2_with (fail)
      go_ret
      exact ⟨rfl, below_drewN' (below_alloc _ _) _⟩

/-- spec.l2Node -/
theorem nodeS (k n : Int) (m : ByteArray) (ka ta : Option Addr) (nk kc tc : Nat) (ts : List T) (w : World) (h1 : nk ≤ maxLen) (z1 : m.size ≤ maxLen) (z2 : ts.length ≤ 1048576) (hT : TR w (.slice ta ts.length tc) ts) :
    Calls Tryz.prog 112 #[.agg #[.int .i64 k, .int .i64 n, .string m, .slice ka nk kc, .slice ta ts.length tc]] w fun e w' => e = .returned (.bool (nodeB k n m nk ts)) ∧ Below w.heap.size w w' := by
  by_cases hn : (nk : Int) = kidsK k
  · rw [nodeB_fits hn]
    by_cases ht : k = 10 ↔ 0 < ts.length
    · by_cases hm : k = 2 ↔ m.size ≠ 0
      · exact nodeS_ok k n m ka ta nk kc tc ts w h1 z1 z2 hT hn ht hm
      · rw [fits_meter hm]
        exact nodeS_bad k n m ka ta nk kc _ tc w h1 (by unfold maxLen; omega) (.inr (.inr hm))
    · rw [fits_tiers ht]
      exact nodeS_bad k n m ka ta nk kc _ tc w h1 (by unfold maxLen; omega) (.inr (.inl ht))
  · rw [nodeB_kids hn]
    exact nodeS_bad k n m ka ta nk kc _ tc w h1 (by unfold maxLen; omega) (.inl hn)
end Go.Proofs.YtnchgeiinkaefaaGreatDoor.Rule
end
