/-
  Texts of this proof laid together, in build order; each says of itself what it holds.
-/
import Derived.Test.YtnchgeiinkaefaaGreatDoorZai
import Derived.Test.YtnchgeiinkaefaaGreatDoorZaq
import Derived.Laws.OwnMore
import Derived.WalkSmall
import Derived.Deep.AppendLies
import Derived.Deep.RegionHeldLaw
import Derived.OwnWalk
section
/-
  The methods 'next' and 'value' of the kinds.
-/
namespace Go.Proofs.YtnchgeiinkaefaaGreatDoor.Rule
set_option linter.unusedVariables false
open Go.RowKit Tiers
open Kinds hiding hide unhide below_trans ext_toList
open Coin (okB addV addB timesV fitB partV partB)

/-- the slice v holds the values vs -/
def VR (W : World) (v : Value) (vs : List Int) : Prop :=
  (vs = [] ∧ ∃ a c, v = .slice a 0 c) ∨ ∃ b o cap, v = .slice (some ⟨b, o, none⟩) vs.length cap ∧ b < W.heap.size ∧ ∀ i, i < vs.length → W.cell? ⟨b, o + i, none⟩ = some (.int .i64 (vs.getD i 0))
theorem VR.form {W : World} {v : Value} {vs : List Int} (h : VR W v vs) : ∃ a c, v = .slice a vs.length c := by
  rcases h with ⟨rfl, a, c, rfl⟩ | ⟨b, o, cap, rfl, _⟩
  · exact ⟨_, _, rfl⟩
  · exact ⟨_, _, rfl⟩
theorem VR.kept {W W' : World} {v : Value} {vs : List Int} (h : VR W v vs) (hb : Below W.heap.size W W') : VR W' v vs := by
  rcases h with h | ⟨b, o, cap, rfl, h1, h2⟩
  · exact .inl h
  · exact .inr ⟨b, o, cap, rfl, Nat.lt_of_lt_of_le h1 hb.size, fun i hi => (hb.cell (p := ⟨b, o + i, none⟩) h1).trans (h2 i hi)⟩

/-! ### next -/
def NextP (k : Int) (vs : List Int) (w : World) (x : Ending) (w' : World) : Prop := ∃ (p : Nat) (b : Bool), x = .returned (.tuple #[.int .i64 (p : Int), .bool b]) ∧ (b = true → nextM k vs = some p) ∧ (b = false → nextM k vs = none) ∧ Below w.heap.size w w'
def nextF (k : Int) : Nat := if k = 9 then 276 else 263
theorem mNextNum (s : ByteArray) (n : Int) (w : World) : (method 453 221 (.agg #[.string s, .int .i64 n]) "loop.example/scot/impl.next").run Tryz.prog w = .ok (263, .agg #[.string s, .int .i64 n]) w := by kernel_rfl
theorem mNextMeter (s : ByteArray) (n : Int) (w : World) : (method 453 222 (.agg #[.string s, .int .i64 n]) "loop.example/scot/impl.next").run Tryz.prog w = .ok (263, .agg #[.string s, .int .i64 n]) w := by kernel_rfl
theorem mNextPair (s : ByteArray) (n : Int) (f : Value) (w : World) : (method 453 224 (.agg #[.string s, .int .i64 n, f]) "loop.example/scot/impl.next").run Tryz.prog w = .ok (263, .agg #[.string s, .int .i64 n]) w := by kernel_rfl
theorem mNextPart (s : ByteArray) (n : Int) (w : World) : (method 453 225 (.agg #[.string s, .int .i64 n]) "loop.example/scot/impl.next").run Tryz.prog w = .ok (263, .agg #[.string s, .int .i64 n]) w := by kernel_rfl
theorem mNextIf (s : ByteArray) (n : Int) (w : World) : (method 453 226 (.agg #[.string s, .int .i64 n]) "loop.example/scot/impl.next").run Tryz.prog w = .ok (276, .agg #[.string s, .int .i64 n]) w := by kernel_rfl
theorem mNextSteps (s : ByteArray) (n : Int) (w : World) : (method 453 227 (.agg #[.string s, .int .i64 n]) "loop.example/scot/impl.next").run Tryz.prog w = .ok (263, .agg #[.string s, .int .i64 n]) w := by kernel_rfl
theorem mNext {k : Int} (h : 1 ≤ k ∧ k ≤ 10) (w : World) : (method 453 (typeK k) (recK k) "loop.example/scot/impl.next").run Tryz.prog w = .ok (nextF k, lookV k) w := by
  rcases cases10 h with rfl | rfl | rfl | rfl | rfl | rfl | rfl | rfl | rfl | rfl
  · exact mNextNum _ _ w
  · exact mNextMeter _ _ w
  · exact mNextPair _ _ _ w
  · exact mNextPair _ _ _ w
  · exact mNextPair _ _ _ w
  · exact mNextPart _ _ w
  · exact mNextPair _ _ _ w
  · exact mNextPair _ _ _ w
  · exact mNextIf _ _ w
  · exact mNextSteps _ _ w
theorem eNext {k : Int} (h : 1 ≤ k ∧ k ≤ 10) (args : Array Value) (w : World) : (callFunc (nextF k) args).run Tryz.prog w = .ok (.enter (nextF k) args) w := by
  rcases cases10 h with rfl | rfl | rfl | rfl | rfl | rfl | rfl | rfl | rfl | rfl
  all_goals kernel_rfl

set_option maxHeartbeats 1000000 in
theorem nextLook (s : ByteArray) (q : Int) (a : Option Addr) (n c : Nat) (w : World) (hn : n ≤ 3) :
    Calls Tryz.prog 263 #[.agg #[.string s, .int .i64 q], .slice a n c] w fun x w' => x = .returned (.tuple #[.int .i64 (n : Int), .bool (decide ((n : Int) < q))]) ∧ Below w.heap.size w w' := by
  go_enter Tryz.func263, Tryz.ntmps263
  go_wp2_with (fail)
  go_quiet (fail)
  go_wp2_with (fail)
  go_ret2
  exact ⟨rfl, below_drewN' (below_alloc _ _) _⟩

set_option maxHeartbeats 1000000 in
theorem nextIf (s : ByteArray) (q : Int) (v : Value) (vs : List Int) (w : World) (hv : VR w v vs) (hn : vs.length ≤ 3) :
    Calls Tryz.prog 276 #[.agg #[.string s, .int .i64 q], v] w fun x w' => NextP 9 vs w x w' := by
  by_cases h0 : vs.length = 0
  · obtain ⟨a, c, rfl⟩ := hv.form
    rw [h0]
    have HN : Hid (nextM 9 vs = some 0) := hide (by show (if vs.length = 0 then some 0 else _) = _; rw [if_pos h0])
    clear hv h0 hn
    go_enter Tryz.func276, Tryz.ntmps276
    go_wp2_with (fail)
    go_ret2
    exact ⟨0, true, rfl, fun _ => unhide HN, fun h => (by cases h), below_alloc _ _⟩
  rcases hv with ⟨rfl, _⟩ | ⟨b, o, cap, rfl, hb, hc⟩
  · simp at h0
  have c0' := hc 0 (by omega)
  rw [Nat.add_zero] at c0'
  have HN : Hid (nextM 9 vs = if vs.length = 1 then (if 0 < vs.getD 0 0 then some 1 else some 2) else none) := hide (by show (if vs.length = 0 then some 0 else _) = _; rw [if_neg h0])
  have h0' : ((vs.length : Int) == 0) = false := by simpa using h0
  clear hc
  generalize vs.getD 0 0 = a at *
  generalize vs.length = n at *
  by_cases h1 : n = 1
  · have h1' : ((n : Int) == 1) = true := by simp [h1]
    rw [if_pos h1] at HN
    by_cases ha : 0 < a
    · rw [if_pos ha] at HN
      clear h1
      go_enter Tryz.func276, Tryz.ntmps276
      go_wp2_with (fail)
      go_ret2
      exact ⟨1, true, rfl, fun _ => unhide HN, fun h => (by cases h), below_alloc _ _⟩
    · rw [if_neg ha] at HN
      clear h1
      go_enter Tryz.func276, Tryz.ntmps276
      go_wp2_with (fail)
      go_ret2
      exact ⟨2, true, rfl, fun _ => unhide HN, fun h => (by cases h), below_alloc _ _⟩
  · have h1' : ((n : Int) == 1) = false := beq_eq_false_iff_ne.2 (by omega)
    rw [if_neg h1] at HN
    by_cases ha : 0 < a
    · clear h1
      go_enter Tryz.func276, Tryz.ntmps276
      go_wp2_with (fail)
      go_ret2
      exact ⟨1, false, rfl, fun h => (by cases h), fun _ => unhide HN, below_alloc _ _⟩
    · clear h1
      go_enter Tryz.func276, Tryz.ntmps276
      go_wp2_with (fail)
      go_ret2
      exact ⟨2, false, rfl, fun h => (by cases h), fun _ => unhide HN, below_alloc _ _⟩

theorem nextI {k : Int} (h : 1 ≤ k ∧ k ≤ 10) (v : Value) (vs : List Int) (w : World) (hv : VR w v vs) (hn : vs.length ≤ 3) :
    Calls Tryz.prog (nextF k) #[lookV k, v] w fun x w' => NextP k vs w x w' := by
  by_cases h9 : k = 9
  · subst h9
    exact nextIf _ _ v vs w hv hn
  · obtain ⟨a, c, rfl⟩ := hv.form
    have e1 : nextF k = 263 := if_neg h9
    rw [e1]
    refine (nextLook (wordK k) (kidsK k) a vs.length c w hn).mono ?_
    rintro x w' ⟨rfl, hb⟩
    refine ⟨vs.length, _, rfl, fun h => ?_, fun h => ?_, hb⟩
    · unfold nextM; rw [if_neg h9, if_pos (of_decide_eq_true h)]
    · unfold nextM; rw [if_neg h9, if_neg (of_decide_eq_false h)]

/-! ### value -/
theorem below_drew {B : Nat} {a w : World} (h : Below B a w) : Below B a w.drew := ⟨h.os, h.tape, h.output, h.size, h.block⟩
def valF (k : Int) : Nat := if k = 1 then 267 else if k = 2 then 270 else if k = 6 then 275 else if k = 9 then 277 else if k = 10 then 280 else 272
theorem mValNum (s : ByteArray) (n : Int) (w : World) : (method 453 221 (.agg #[.string s, .int .i64 n]) "loop.example/scot/impl.value").run Tryz.prog w = .ok (267, .agg #[.string s, .int .i64 n]) w := by kernel_rfl
theorem mValMeter (s : ByteArray) (n : Int) (w : World) : (method 453 222 (.agg #[.string s, .int .i64 n]) "loop.example/scot/impl.value").run Tryz.prog w = .ok (270, .agg #[.string s, .int .i64 n]) w := by kernel_rfl
theorem mValPair (s : ByteArray) (n : Int) (f : Value) (w : World) : (method 453 224 (.agg #[.string s, .int .i64 n, f]) "loop.example/scot/impl.value").run Tryz.prog w = .ok (272, .agg #[.string s, .int .i64 n, f]) w := by kernel_rfl
theorem mValPart (s : ByteArray) (n : Int) (w : World) : (method 453 225 (.agg #[.string s, .int .i64 n]) "loop.example/scot/impl.value").run Tryz.prog w = .ok (275, .agg #[.string s, .int .i64 n]) w := by kernel_rfl
theorem mValIf (s : ByteArray) (n : Int) (w : World) : (method 453 226 (.agg #[.string s, .int .i64 n]) "loop.example/scot/impl.value").run Tryz.prog w = .ok (277, .agg #[.string s, .int .i64 n]) w := by kernel_rfl
theorem mValSteps (s : ByteArray) (n : Int) (w : World) : (method 453 227 (.agg #[.string s, .int .i64 n]) "loop.example/scot/impl.value").run Tryz.prog w = .ok (280, .agg #[.string s, .int .i64 n]) w := by kernel_rfl
theorem mVal {k : Int} (h : 1 ≤ k ∧ k ≤ 10) (w : World) : (method 453 (typeK k) (recK k) "loop.example/scot/impl.value").run Tryz.prog w = .ok (valF k, recK k) w := by
  rcases cases10 h with rfl | rfl | rfl | rfl | rfl | rfl | rfl | rfl | rfl | rfl
  · exact mValNum _ _ w
  · exact mValMeter _ _ w
  · exact mValPair _ _ _ w
  · exact mValPair _ _ _ w
  · exact mValPair _ _ _ w
  · exact mValPart _ _ w
  · exact mValPair _ _ _ w
  · exact mValPair _ _ _ w
  · exact mValIf _ _ w
  · exact mValSteps _ _ w
theorem eVal {k : Int} (h : 1 ≤ k ∧ k ≤ 10) (args : Array Value) (w : World) : (callFunc (valF k) args).run Tryz.prog w = .ok (.enter (valF k) args) w := by
  rcases cases10 h with rfl | rfl | rfl | rfl | rfl | rfl | rfl | rfl | rfl | rfl
  all_goals kernel_rfl

set_option maxHeartbeats 1000000 in
theorem valNum (s : ByteArray) (q : Int) (e : Ex) (ka : Option Addr) (kc : Nat) (ta : Option Addr) (tc : Nat) (uv v : Value) (w : World) :
    Calls Tryz.prog 267 #[.agg #[.string s, .int .i64 q], exV e ka kc ta tc, uv, v] w fun x w' => x = .returned (.tuple #[.int .i64 e.num, .bool true]) ∧ Below w.heap.size w w' := by
  go_enter Tryz.func267, Tryz.ntmps267
  go_wp2_with (fail)
  go_ret2
  exact ⟨rfl, below2 _ _ _⟩

set_option maxHeartbeats 1000000 in
theorem valMeter (us : List Uses.U) (hul : us.length ≤ 1048576) (s : ByteArray) (q : Int) (e : Ex) (ka : Option Addr) (kc : Nat) (ta : Option Addr) (tc : Nat) (uv v : Value) (w : World) (hU : Uses.UR w uv us) :
    Calls Tryz.prog 270 #[.agg #[.string s, .int .i64 q], exV e ka kc ta tc, uv, v] w fun x w' => x = .returned (.tuple #[.int .i64 (Uses.ofV e.meter us), .bool (okB (Uses.ofV e.meter us))]) ∧ Below w.heap.size w w' := by
  have HU := hide hU
  clear hU
  go_enter Tryz.func270, Tryz.ntmps270
  go_wp2_with (fail)
  refine (Uses.ofI _ us _ _ ((unhide HU).kept (below2 _ _ _)) hul).mono ?_
  rintro x w1 ⟨rfl, hb⟩
  have HB := hide ((below2 _ _ _).trans (hb.mono (by simp; omega)))
  clear hb
  go_wp2_with (fail)
  refine (Coin.okI _ _).mono ?_
  rintro x w2 ⟨rfl, rfl⟩
  go_wp2_with (fail)
  go_ret2
  exact ⟨rfl, unhide HB⟩

set_option maxHeartbeats 1000000 in
theorem valIf (s : ByteArray) (q : Int) (e : Ex) (ka : Option Addr) (kc : Nat) (ta : Option Addr) (tc : Nat) (uv : Value) (b o cap n : Nat) (m : Int) (w : World) (hn : 2 ≤ n) (hn3 : n ≤ 3) (hb : b < w.heap.size) (c1 : w.cell? ⟨b, o + 1, none⟩ = some (.int .i64 m)) :
    Calls Tryz.prog 277 #[.agg #[.string s, .int .i64 q], exV e ka kc ta tc, uv, .slice (some ⟨b, o, none⟩) n cap] w fun x w' => x = .returned (.tuple #[.int .i64 m, .bool true]) ∧ Below w.heap.size w w' := by
  have n1 : (1 : Int) < (n : Int) := by omega
  have hb1 : b < w.heap.size + 1 := by omega
  go_enter Tryz.func277, Tryz.ntmps277
  go_wp2_with (fail)
  go_ret2
  exact ⟨rfl, below2 _ _ _⟩

set_option maxHeartbeats 1000000 in
theorem valPart (s : ByteArray) (q : Int) (e : Ex) (ka : Option Addr) (kc : Nat) (ta : Option Addr) (tc : Nat) (uv : Value) (b o cap n : Nat) (m : Int) (w : World) (hn : 1 ≤ n) (hn3 : n ≤ 3) (hb : b < w.heap.size) (c1 : w.cell? ⟨b, o, none⟩ = some (.int .i64 m)) :
    Calls Tryz.prog 275 #[.agg #[.string s, .int .i64 q], exV e ka kc ta tc, uv, .slice (some ⟨b, o, none⟩) n cap] w fun x w' => x = .returned (.tuple #[.int .i64 (partV m e.num 10000), .bool (partB m e.num 10000)]) ∧ Below w.heap.size w w' := by
  have n1 : (0 : Int) < (n : Int) := by omega
  have n0 : 0 < n := by omega
  have hb1 : b < w.heap.size + 1 := by omega
  obtain ⟨W1, hW1⟩ : ∃ W1, (w.alloc (.cells #[.string s, .int .i64 q] 225)).alloc (.cells #[.int .i64 e.kind, .int .i64 e.num, .string e.meter, .slice ka e.kids.length kc, .slice ta e.tiers.length tc] 77) = W1 := ⟨_, rfl⟩
  have HW1 := hide hW1
  have hb2 : Below w.heap.size w W1 := by rw [← hW1]; exact below2 _ _ _
  have HB := hide hb2
  have c1' := (hb2.cell (p := ⟨b, o, none⟩) hb).trans c1
  have c4 : W1.cell? ⟨w.heap.size + 1, 1, none⟩ = some (.int .i64 e.num) := by
    rw [← hW1]
    have := (new5 (w.alloc (.cells #[.string s, .int .i64 q] 225)) (.int .i64 e.kind) (.int .i64 e.num) (.string e.meter) (.slice ka e.kids.length kc) (.slice ta e.tiers.length tc) 77).2.1
    rw [World.size_alloc] at this
    exact this
  have y1 : b < W1.heap.size := Nat.lt_of_lt_of_le hb hb2.size
  have y2 : w.heap.size + 1 < W1.heap.size := by rw [← hW1]; simp
  clear hW1 hb2 c1
  go_enter Tryz.func275, Tryz.ntmps275
  go_wp2_with (fail)
  rw [unhide HW1]
  go_region_held3 (fun ww => ww.cell? ⟨b, o, none⟩ = some (.int .i64 m) ∧ ww.cell? ⟨w.heap.size + 1, 1, none⟩ = some (.int .i64 e.num)) (go_keep)
    (first | (go_at_call 70; refine (Coin.partI _ _ _ W1.drew).mono ?_; rintro x w2 ⟨rfl, kk, hkk⟩; have hb2 : Below W1.heap.size W1 w2 := (by rw [hkk]; exact ⟨rfl, rfl, rfl, Nat.le_refl _, fun _ _ => rfl⟩); clear hkk; have p0 := (hb2.cell (p := ⟨b, o, none⟩) y1).trans c1'; have p2 := (hb2.cell (p := ⟨w.heap.size + 1, 1, none⟩) y2).trans c4))
  have HB2 := hide (below_trans (unhide HB) hb2)
  clear p0 p2 c1' c4 hb2
  go_wp2_with (fail)
  go_ret2
  exact ⟨rfl, unhide HB2⟩

set_option maxHeartbeats 1000000 in
theorem valSteps (s : ByteArray) (q : Int) (e : Ex) (ka : Option Addr) (kc : Nat) (ta : Option Addr) (tc : Nat) (uv : Value) (b o cap n : Nat) (m : Int) (w : World) (hn : 1 ≤ n) (hn3 : n ≤ 3) (hb : b < w.heap.size) (c1 : w.cell? ⟨b, o, none⟩ = some (.int .i64 m)) (hT : TR w (.slice ta e.tiers.length tc) e.tiers) (htl : e.tiers.length ≤ 1048576) :
    Calls Tryz.prog 280 #[.agg #[.string s, .int .i64 q], exV e ka kc ta tc, uv, .slice (some ⟨b, o, none⟩) n cap] w fun x w' => x = .returned (.tuple #[.int .i64 (stepV e.tiers m), .bool (stepB e.tiers m)]) ∧ Below w.heap.size w w' := by
  have n1 : (0 : Int) < (n : Int) := by omega
  have n0 : 0 < n := by omega
  have hb1 : b < w.heap.size + 1 := by omega
  obtain ⟨W1, hW1⟩ : ∃ W1, (w.alloc (.cells #[.string s, .int .i64 q] 227)).alloc (.cells #[.int .i64 e.kind, .int .i64 e.num, .string e.meter, .slice ka e.kids.length kc, .slice ta e.tiers.length tc] 77) = W1 := ⟨_, rfl⟩
  have HW1 := hide hW1
  have hb2 : Below w.heap.size w W1 := by rw [← hW1]; exact below2 _ _ _
  have HB := hide hb2
  have HT := hide (hT.kept hb2)
  have c1' := (hb2.cell (p := ⟨b, o, none⟩) hb).trans c1
  have c4 : W1.cell? ⟨w.heap.size + 1, 4, none⟩ = some (.slice ta e.tiers.length tc) := by
    rw [← hW1]
    have := (new5 (w.alloc (.cells #[.string s, .int .i64 q] 227)) (.int .i64 e.kind) (.int .i64 e.num) (.string e.meter) (.slice ka e.kids.length kc) (.slice ta e.tiers.length tc) 77).2.2.2.2
    rw [World.size_alloc] at this
    exact this
  have y1 : b < W1.heap.size := Nat.lt_of_lt_of_le hb hb2.size
  have y2 : w.heap.size + 1 < W1.heap.size := by rw [← hW1]; simp
  clear hW1 hb2 hT c1
  go_enter Tryz.func280, Tryz.ntmps280
  go_wp2_with (fail)
  rw [unhide HW1]
  go_region_held3 (fun ww => ww.cell? ⟨b, o, none⟩ = some (.int .i64 m) ∧ ww.cell? ⟨w.heap.size + 1, 4, none⟩ = some (.slice ta e.tiers.length tc)) (go_keep)
    (first | (go_at_call 282; refine (stepI _ e.tiers _ W1.drew ((unhide HT).kept ⟨rfl, rfl, rfl, Nat.le_refl _, fun _ _ => rfl⟩) htl).mono ?_; rintro x w2 ⟨rfl, hb2'⟩; have hb2 : Below W1.heap.size W1 w2 := ⟨hb2'.os, hb2'.tape, hb2'.output, hb2'.size, hb2'.block⟩; clear hb2'; have p0 := (hb2.cell (p := ⟨b, o, none⟩) y1).trans c1'; have p2 := (hb2.cell (p := ⟨w.heap.size + 1, 4, none⟩) y2).trans c4))
  have HB2 := hide (below_trans (unhide HB) hb2)
  clear p0 p2 c1' c4 hb2
  go_wp2_with (fail)
  go_ret2
  exact ⟨rfl, unhide HB2⟩

set_option maxHeartbeats 1000000 in
theorem diffI (a b : Int) (w : World) (hb : okB b = true) : Calls Tryz.prog 137 #[.int .i64 a, .int .i64 b] w fun x w' => x = .returned (.tuple #[.int .i64 (addV a (-b)), .bool (addB a (-b))]) ∧ w' = w := by
  obtain ⟨b1, b2⟩ := okB_bd hb
  clear hb
  go_enter Tryz.func137, Tryz.ntmps137
  go_wp2_with (go_at_call 136; refine (Coin.addI _ _ _).mono ?_; rintro x w' ⟨rfl, rfl⟩)
  go_ret2
  exact ⟨rfl, rfl⟩

theorem lesserI (a b : Int) (w : World) : Calls Tryz.prog 139 #[.int .i64 a, .int .i64 b] w fun x w' => x = .returned (.tuple #[.int .i64 (if b < a then b else a), .bool true]) ∧ w' = w := by
  by_cases h : b < a
  · rw [if_pos h]
    have h2 : decide (b < a) = true := decide_eq_true h
    go_enter Tryz.func139, Tryz.ntmps139
    go_wp2_with (fail)
    go_ret2
    first | exact ⟨rfl, rfl⟩ | exact ⟨by rw [show min a b = b from by omega]; rfl, rfl⟩
  · rw [if_neg h]
    have h2 : decide (b < a) = false := decide_eq_false h
    go_enter Tryz.func139, Tryz.ntmps139
    go_wp2_with (fail)
    go_ret2
    first | exact ⟨rfl, rfl⟩ | exact ⟨by rw [show min a b = a from by omega]; rfl, rfl⟩

theorem greaterI (a b : Int) (w : World) : Calls Tryz.prog 140 #[.int .i64 a, .int .i64 b] w fun x w' => x = .returned (.tuple #[.int .i64 (if b < a then a else b), .bool true]) ∧ w' = w := by
  by_cases h : b < a
  · rw [if_pos h]
    have h2 : decide (b < a) = true := decide_eq_true h
    go_enter Tryz.func140, Tryz.ntmps140
    go_wp2_with (fail)
    go_ret2
    first | exact ⟨rfl, rfl⟩ | exact ⟨by rw [show max a b = a from by omega]; rfl, rfl⟩
  · rw [if_neg h]
    by_cases h3 : a = b
    · subst h3
      go_enter Tryz.func140, Tryz.ntmps140
      go_wp2_with (fail)
      go_ret2
      first | exact ⟨rfl, rfl⟩ | exact ⟨by rw [show max a a = a from by omega]; rfl, rfl⟩
    have h2 : decide (b < a) = false := decide_eq_false h
    have h4 : a < b := by omega
    go_enter Tryz.func140, Tryz.ntmps140
    go_wp2_with (fail)
    go_ret2
    first | exact ⟨rfl, rfl⟩ | exact ⟨by rw [show max a b = b from by omega]; rfl, rfl⟩

theorem lesserV (a b V : Int) (w : World) (h : (if b < a then b else a) = V) : Calls Tryz.prog 139 #[.int .i64 a, .int .i64 b] w fun x w' => x = .returned (.tuple #[.int .i64 V, .bool true]) ∧ w' = w := by rw [← h]; exact lesserI a b w

theorem greaterV (a b V : Int) (w : World) (h : (if b < a then a else b) = V) : Calls Tryz.prog 140 #[.int .i64 a, .int .i64 b] w fun x w' => x = .returned (.tuple #[.int .i64 V, .bool true]) ∧ w' = w := by rw [← h]; exact greaterI a b w

set_option maxHeartbeats 1000000 in
theorem valPair3 (s : ByteArray) (q : Int) (e : Ex) (ka : Option Addr) (kc : Nat) (ta : Option Addr) (tc : Nat) (uv : Value) (b o cap n : Nat) (m1 m2 : Int) (w : World) (hn : 2 ≤ n) (hn3 : n ≤ 3) (hb : b < w.heap.size) (c1 : w.cell? ⟨b, o, none⟩ = some (.int .i64 m1)) (c2 : w.cell? ⟨b, o + 1, none⟩ = some (.int .i64 m2)) (ho : okB m2 = true) :
    Calls Tryz.prog 272 #[.agg #[.string s, .int .i64 q, .func (.func 136) #[] #[]], exV e ka kc ta tc, uv, .slice (some ⟨b, o, none⟩) n cap] w fun x w' => x = .returned (.tuple #[.int .i64 (addV m1 m2), .bool (addB m1 m2)]) ∧ Below w.heap.size w w' := by
  have n1 : (0 : Int) < (n : Int) := by omega
  have n0 : 0 < n := by omega
  have n2 : (1 : Int) < (n : Int) := by omega
  have n3 : 1 < n := by omega
  have HO := hide ho
  obtain ⟨W1, hW1⟩ : ∃ W1, (w.alloc (.cells #[.string s, .int .i64 q, .func (.func 136) #[] #[]] 224)).alloc (.cells #[.int .i64 e.kind, .int .i64 e.num, .string e.meter, .slice ka e.kids.length kc, .slice ta e.tiers.length tc] 77) = W1 := ⟨_, rfl⟩
  have HW1 := hide hW1
  have hb2 : Below w.heap.size w W1 := by rw [← hW1]; exact below2 _ _ _
  have HB := hide hb2
  have c1' := (hb2.cell (p := ⟨b, o, none⟩) hb).trans c1
  have c2' := (hb2.cell (p := ⟨b, o + 1, none⟩) hb).trans c2
  have c4 : W1.cell? ⟨w.heap.size, 2, none⟩ = some (.func (.func 136) #[] #[]) := by
    rw [← hW1, (below_alloc _ _).cell (p := ⟨w.heap.size, 2, none⟩) (by simp)]
    have e1 := (MapKept.heap_alloc w (.cells #[.string s, .int .i64 q, .func (.func 136) #[] #[]] 224)).1
    simp only [World.cell?, e1]
    simp
  have y1 : b < W1.heap.size := Nat.lt_of_lt_of_le hb hb2.size
  have y2 : w.heap.size < W1.heap.size := by rw [← hW1]; simp; omega
  clear hW1 hb2 c1 c2 ho
  go_enter Tryz.func272, Tryz.ntmps272
  go_wp2_with (fail)
  rw [unhide HW1]
  go_region_held3 (fun ww => ww.cell? ⟨b, o, none⟩ = some (.int .i64 m1) ∧ ww.cell? ⟨b, o + 1, none⟩ = some (.int .i64 m2) ∧ ww.cell? ⟨w.heap.size, 2, none⟩ = some (.func (.func 136) #[] #[])) (go_keep)
    (first | (go_at_call 136; refine (Coin.addI _ _ W1.drew).mono ?_; rintro x w2 ⟨rfl, hw2⟩; have hb2 : Below W1.heap.size W1 w2 := (by rw [hw2]; exact ⟨rfl, rfl, rfl, Nat.le_refl _, fun _ _ => rfl⟩); clear hw2; have p0 := (hb2.cell (p := ⟨b, o, none⟩) y1).trans c1'; have p1 := (hb2.cell (p := ⟨b, o + 1, none⟩) y1).trans c2'; have p2 := (hb2.cell (p := ⟨w.heap.size, 2, none⟩) y2).trans c4))
  have HB2 := hide (below_trans (unhide HB) hb2)
  clear p0 p1 p2 c1' c2' c4 hb2
  go_wp2_with (fail)
  go_ret2
  exact ⟨rfl, unhide HB2⟩

set_option maxHeartbeats 1000000 in
theorem valPair4 (s : ByteArray) (q : Int) (e : Ex) (ka : Option Addr) (kc : Nat) (ta : Option Addr) (tc : Nat) (uv : Value) (b o cap n : Nat) (m1 m2 : Int) (w : World) (hn : 2 ≤ n) (hn3 : n ≤ 3) (hb : b < w.heap.size) (c1 : w.cell? ⟨b, o, none⟩ = some (.int .i64 m1)) (c2 : w.cell? ⟨b, o + 1, none⟩ = some (.int .i64 m2)) (ho : okB m2 = true) :
    Calls Tryz.prog 272 #[.agg #[.string s, .int .i64 q, .func (.func 137) #[] #[]], exV e ka kc ta tc, uv, .slice (some ⟨b, o, none⟩) n cap] w fun x w' => x = .returned (.tuple #[.int .i64 (addV m1 (-m2)), .bool (addB m1 (-m2))]) ∧ Below w.heap.size w w' := by
  have n1 : (0 : Int) < (n : Int) := by omega
  have n0 : 0 < n := by omega
  have n2 : (1 : Int) < (n : Int) := by omega
  have n3 : 1 < n := by omega
  have HO := hide ho
  obtain ⟨W1, hW1⟩ : ∃ W1, (w.alloc (.cells #[.string s, .int .i64 q, .func (.func 137) #[] #[]] 224)).alloc (.cells #[.int .i64 e.kind, .int .i64 e.num, .string e.meter, .slice ka e.kids.length kc, .slice ta e.tiers.length tc] 77) = W1 := ⟨_, rfl⟩
  have HW1 := hide hW1
  have hb2 : Below w.heap.size w W1 := by rw [← hW1]; exact below2 _ _ _
  have HB := hide hb2
  have c1' := (hb2.cell (p := ⟨b, o, none⟩) hb).trans c1
  have c2' := (hb2.cell (p := ⟨b, o + 1, none⟩) hb).trans c2
  have c4 : W1.cell? ⟨w.heap.size, 2, none⟩ = some (.func (.func 137) #[] #[]) := by
    rw [← hW1, (below_alloc _ _).cell (p := ⟨w.heap.size, 2, none⟩) (by simp)]
    have e1 := (MapKept.heap_alloc w (.cells #[.string s, .int .i64 q, .func (.func 137) #[] #[]] 224)).1
    simp only [World.cell?, e1]
    simp
  have y1 : b < W1.heap.size := Nat.lt_of_lt_of_le hb hb2.size
  have y2 : w.heap.size < W1.heap.size := by rw [← hW1]; simp; omega
  clear hW1 hb2 c1 c2 ho
  go_enter Tryz.func272, Tryz.ntmps272
  go_wp2_with (fail)
  rw [unhide HW1]
  go_region_held3 (fun ww => ww.cell? ⟨b, o, none⟩ = some (.int .i64 m1) ∧ ww.cell? ⟨b, o + 1, none⟩ = some (.int .i64 m2) ∧ ww.cell? ⟨w.heap.size, 2, none⟩ = some (.func (.func 137) #[] #[])) (go_keep)
    (first | (go_at_call 137; refine (diffI _ _ W1.drew (unhide HO)).mono ?_; rintro x w2 ⟨rfl, hw2⟩; have hb2 : Below W1.heap.size W1 w2 := (by rw [hw2]; exact ⟨rfl, rfl, rfl, Nat.le_refl _, fun _ _ => rfl⟩); clear hw2; have p0 := (hb2.cell (p := ⟨b, o, none⟩) y1).trans c1'; have p1 := (hb2.cell (p := ⟨b, o + 1, none⟩) y1).trans c2'; have p2 := (hb2.cell (p := ⟨w.heap.size, 2, none⟩) y2).trans c4))
  have HB2 := hide (below_trans (unhide HB) hb2)
  clear p0 p1 p2 c1' c2' c4 hb2
  go_wp2_with (fail)
  go_ret2
  exact ⟨rfl, unhide HB2⟩

set_option maxHeartbeats 1000000 in
theorem valPair5 (s : ByteArray) (q : Int) (e : Ex) (ka : Option Addr) (kc : Nat) (ta : Option Addr) (tc : Nat) (uv : Value) (b o cap n : Nat) (m1 m2 : Int) (w : World) (hn : 2 ≤ n) (hn3 : n ≤ 3) (hb : b < w.heap.size) (c1 : w.cell? ⟨b, o, none⟩ = some (.int .i64 m1)) (c2 : w.cell? ⟨b, o + 1, none⟩ = some (.int .i64 m2)) (ho : okB m2 = true) :
    Calls Tryz.prog 272 #[.agg #[.string s, .int .i64 q, .func (.func 138) #[] #[]], exV e ka kc ta tc, uv, .slice (some ⟨b, o, none⟩) n cap] w fun x w' => x = .returned (.tuple #[.int .i64 (timesV m1 m2), .bool (fitB m1 m2)]) ∧ Below w.heap.size w w' := by
  have n1 : (0 : Int) < (n : Int) := by omega
  have n0 : 0 < n := by omega
  have n2 : (1 : Int) < (n : Int) := by omega
  have n3 : 1 < n := by omega
  have HO := hide ho
  obtain ⟨W1, hW1⟩ : ∃ W1, (w.alloc (.cells #[.string s, .int .i64 q, .func (.func 138) #[] #[]] 224)).alloc (.cells #[.int .i64 e.kind, .int .i64 e.num, .string e.meter, .slice ka e.kids.length kc, .slice ta e.tiers.length tc] 77) = W1 := ⟨_, rfl⟩
  have HW1 := hide hW1
  have hb2 : Below w.heap.size w W1 := by rw [← hW1]; exact below2 _ _ _
  have HB := hide hb2
  have c1' := (hb2.cell (p := ⟨b, o, none⟩) hb).trans c1
  have c2' := (hb2.cell (p := ⟨b, o + 1, none⟩) hb).trans c2
  have c4 : W1.cell? ⟨w.heap.size, 2, none⟩ = some (.func (.func 138) #[] #[]) := by
    rw [← hW1, (below_alloc _ _).cell (p := ⟨w.heap.size, 2, none⟩) (by simp)]
    have e1 := (MapKept.heap_alloc w (.cells #[.string s, .int .i64 q, .func (.func 138) #[] #[]] 224)).1
    simp only [World.cell?, e1]
    simp
  have y1 : b < W1.heap.size := Nat.lt_of_lt_of_le hb hb2.size
  have y2 : w.heap.size < W1.heap.size := by rw [← hW1]; simp; omega
  clear hW1 hb2 c1 c2 ho
  go_enter Tryz.func272, Tryz.ntmps272
  go_wp2_with (fail)
  rw [unhide HW1]
  go_region_held3 (fun ww => ww.cell? ⟨b, o, none⟩ = some (.int .i64 m1) ∧ ww.cell? ⟨b, o + 1, none⟩ = some (.int .i64 m2) ∧ ww.cell? ⟨w.heap.size, 2, none⟩ = some (.func (.func 138) #[] #[])) (go_keep)
    (first | (go_at_call 138; refine (Coin.timesI _ _ W1.drew).mono ?_; rintro x w2 ⟨rfl, hw2⟩; have hb2 : Below W1.heap.size W1 w2 := (by rw [hw2]; exact ⟨rfl, rfl, rfl, Nat.le_refl _, fun _ _ => rfl⟩); clear hw2; have p0 := (hb2.cell (p := ⟨b, o, none⟩) y1).trans c1'; have p1 := (hb2.cell (p := ⟨b, o + 1, none⟩) y1).trans c2'; have p2 := (hb2.cell (p := ⟨w.heap.size, 2, none⟩) y2).trans c4))
  have HB2 := hide (below_trans (unhide HB) hb2)
  clear p0 p1 p2 c1' c2' c4 hb2
  go_wp2_with (fail)
  go_ret2
  exact ⟨rfl, unhide HB2⟩

set_option maxHeartbeats 1000000 in
theorem valPair7 (s : ByteArray) (q : Int) (e : Ex) (ka : Option Addr) (kc : Nat) (ta : Option Addr) (tc : Nat) (uv : Value) (b o cap n : Nat) (m1 m2 : Int) (w : World) (hn : 2 ≤ n) (hn3 : n ≤ 3) (hb : b < w.heap.size) (c1 : w.cell? ⟨b, o, none⟩ = some (.int .i64 m1)) (c2 : w.cell? ⟨b, o + 1, none⟩ = some (.int .i64 m2)) (ho : okB m2 = true) :
    Calls Tryz.prog 272 #[.agg #[.string s, .int .i64 q, .func (.func 139) #[] #[]], exV e ka kc ta tc, uv, .slice (some ⟨b, o, none⟩) n cap] w fun x w' => x = .returned (.tuple #[.int .i64 (if m2 < m1 then m2 else m1), .bool (true)]) ∧ Below w.heap.size w w' := by
  have n1 : (0 : Int) < (n : Int) := by omega
  have n0 : 0 < n := by omega
  have n2 : (1 : Int) < (n : Int) := by omega
  have n3 : 1 < n := by omega
  have HO := hide ho
  generalize hV : (if m2 < m1 then m2 else m1) = V
  have HV := hide hV
  clear hV
  obtain ⟨W1, hW1⟩ : ∃ W1, (w.alloc (.cells #[.string s, .int .i64 q, .func (.func 139) #[] #[]] 224)).alloc (.cells #[.int .i64 e.kind, .int .i64 e.num, .string e.meter, .slice ka e.kids.length kc, .slice ta e.tiers.length tc] 77) = W1 := ⟨_, rfl⟩
  have HW1 := hide hW1
  have hb2 : Below w.heap.size w W1 := by rw [← hW1]; exact below2 _ _ _
  have HB := hide hb2
  have c1' := (hb2.cell (p := ⟨b, o, none⟩) hb).trans c1
  have c2' := (hb2.cell (p := ⟨b, o + 1, none⟩) hb).trans c2
  have c4 : W1.cell? ⟨w.heap.size, 2, none⟩ = some (.func (.func 139) #[] #[]) := by
    rw [← hW1, (below_alloc _ _).cell (p := ⟨w.heap.size, 2, none⟩) (by simp)]
    have e1 := (MapKept.heap_alloc w (.cells #[.string s, .int .i64 q, .func (.func 139) #[] #[]] 224)).1
    simp only [World.cell?, e1]
    simp
  have y1 : b < W1.heap.size := Nat.lt_of_lt_of_le hb hb2.size
  have y2 : w.heap.size < W1.heap.size := by rw [← hW1]; simp; omega
  clear hW1 hb2 c1 c2 ho
  go_enter Tryz.func272, Tryz.ntmps272
  go_wp2_with (fail)
  rw [unhide HW1]
  go_region_held3 (fun ww => ww.cell? ⟨b, o, none⟩ = some (.int .i64 m1) ∧ ww.cell? ⟨b, o + 1, none⟩ = some (.int .i64 m2) ∧ ww.cell? ⟨w.heap.size, 2, none⟩ = some (.func (.func 139) #[] #[])) (go_keep)
    (first | (go_at_call 139; refine (lesserV _ _ V W1.drew (unhide HV)).mono ?_; rintro x w2 ⟨rfl, hw2⟩; have hb2 : Below W1.heap.size W1 w2 := (by rw [hw2]; exact ⟨rfl, rfl, rfl, Nat.le_refl _, fun _ _ => rfl⟩); clear hw2; have p0 := (hb2.cell (p := ⟨b, o, none⟩) y1).trans c1'; have p1 := (hb2.cell (p := ⟨b, o + 1, none⟩) y1).trans c2'; have p2 := (hb2.cell (p := ⟨w.heap.size, 2, none⟩) y2).trans c4))
  have HB2 := hide (below_trans (unhide HB) hb2)
  clear p0 p1 p2 c1' c2' c4 hb2
  go_wp2_with (fail)
  go_ret2
  exact ⟨rfl, unhide HB2⟩

set_option maxHeartbeats 1000000 in
theorem valPair8 (s : ByteArray) (q : Int) (e : Ex) (ka : Option Addr) (kc : Nat) (ta : Option Addr) (tc : Nat) (uv : Value) (b o cap n : Nat) (m1 m2 : Int) (w : World) (hn : 2 ≤ n) (hn3 : n ≤ 3) (hb : b < w.heap.size) (c1 : w.cell? ⟨b, o, none⟩ = some (.int .i64 m1)) (c2 : w.cell? ⟨b, o + 1, none⟩ = some (.int .i64 m2)) (ho : okB m2 = true) :
    Calls Tryz.prog 272 #[.agg #[.string s, .int .i64 q, .func (.func 140) #[] #[]], exV e ka kc ta tc, uv, .slice (some ⟨b, o, none⟩) n cap] w fun x w' => x = .returned (.tuple #[.int .i64 (if m2 < m1 then m1 else m2), .bool (true)]) ∧ Below w.heap.size w w' := by
  have n1 : (0 : Int) < (n : Int) := by omega
  have n0 : 0 < n := by omega
  have n2 : (1 : Int) < (n : Int) := by omega
  have n3 : 1 < n := by omega
  have HO := hide ho
  generalize hV : (if m2 < m1 then m1 else m2) = V
  have HV := hide hV
  clear hV
  obtain ⟨W1, hW1⟩ : ∃ W1, (w.alloc (.cells #[.string s, .int .i64 q, .func (.func 140) #[] #[]] 224)).alloc (.cells #[.int .i64 e.kind, .int .i64 e.num, .string e.meter, .slice ka e.kids.length kc, .slice ta e.tiers.length tc] 77) = W1 := ⟨_, rfl⟩
  have HW1 := hide hW1
  have hb2 : Below w.heap.size w W1 := by rw [← hW1]; exact below2 _ _ _
  have HB := hide hb2
  have c1' := (hb2.cell (p := ⟨b, o, none⟩) hb).trans c1
  have c2' := (hb2.cell (p := ⟨b, o + 1, none⟩) hb).trans c2
  have c4 : W1.cell? ⟨w.heap.size, 2, none⟩ = some (.func (.func 140) #[] #[]) := by
    rw [← hW1, (below_alloc _ _).cell (p := ⟨w.heap.size, 2, none⟩) (by simp)]
    have e1 := (MapKept.heap_alloc w (.cells #[.string s, .int .i64 q, .func (.func 140) #[] #[]] 224)).1
    simp only [World.cell?, e1]
    simp
  have y1 : b < W1.heap.size := Nat.lt_of_lt_of_le hb hb2.size
  have y2 : w.heap.size < W1.heap.size := by rw [← hW1]; simp; omega
  clear hW1 hb2 c1 c2 ho
  go_enter Tryz.func272, Tryz.ntmps272
  go_wp2_with (fail)
  rw [unhide HW1]
  go_region_held3 (fun ww => ww.cell? ⟨b, o, none⟩ = some (.int .i64 m1) ∧ ww.cell? ⟨b, o + 1, none⟩ = some (.int .i64 m2) ∧ ww.cell? ⟨w.heap.size, 2, none⟩ = some (.func (.func 140) #[] #[])) (go_keep)
    (first | (go_at_call 140; refine (greaterV _ _ V W1.drew (unhide HV)).mono ?_; rintro x w2 ⟨rfl, hw2⟩; have hb2 : Below W1.heap.size W1 w2 := (by rw [hw2]; exact ⟨rfl, rfl, rfl, Nat.le_refl _, fun _ _ => rfl⟩); clear hw2; have p0 := (hb2.cell (p := ⟨b, o, none⟩) y1).trans c1'; have p1 := (hb2.cell (p := ⟨b, o + 1, none⟩) y1).trans c2'; have p2 := (hb2.cell (p := ⟨w.heap.size, 2, none⟩) y2).trans c4))
  have HB2 := hide (below_trans (unhide HB) hb2)
  clear p0 p1 p2 c1' c2' c4 hb2
  go_wp2_with (fail)
  go_ret2
  exact ⟨rfl, unhide HB2⟩

/-- what a kind's value wants -/
theorem val_len {e : Ex} {vs : List Int} (hk : 1 ≤ e.kind ∧ e.kind ≤ 10) (hn : nextM e.kind vs = none) : (e.kind = 1 ∨ e.kind = 2) ∨ ((e.kind = 6 ∨ e.kind = 10) ∧ 1 ≤ vs.length) ∨ 2 ≤ vs.length := by
  unfold nextM at hn
  by_cases h9 : e.kind = 9
  · rw [if_pos h9] at hn
    split at hn
    · cases hn
    split at hn
    · split at hn <;> cases hn
    · omega
  · rw [if_neg h9] at hn
    split at hn
    · cases hn
    · rename_i h
      rcases cases10 hk with h' | h' | h' | h' | h' | h' | h' | h' | h' | h' <;> rw [h'] at h <;> simp [kidsK] at h <;> omega

set_option maxHeartbeats 1000000 in
/-- the methods 'value' -/
theorem runValI (us : List Uses.U) (hul : us.length ≤ 1048576) (e : Ex) (ka : Option Addr) (kc : Nat) (ta : Option Addr) (tc : Nat) (uv v : Value) (vs : List Int) (w : World) (hk : 1 ≤ e.kind ∧ e.kind ≤ 10) (hn : nextM e.kind vs = none) (hv : VR w v vs) (hl : vs.length ≤ 3) (hok : ∀ x ∈ vs, okB x = true) (hU : Uses.UR w uv us) (hT : TR w (.slice ta e.tiers.length tc) e.tiers) (htl : e.tiers.length ≤ 1048576) :
    Calls Tryz.prog (valF e.kind) #[recK e.kind, exV e ka kc ta tc, uv, v] w fun x w' => x = .returned (.tuple #[.int .i64 (valV us e vs), .bool (valB us e vs)]) ∧ Below w.heap.size w w' := by
  have hlen := val_len hk hn
  unfold valV valB
  by_cases h1 : e.kind = 1
  · rw [if_pos h1, if_pos h1, h1]
    exact valNum _ _ e ka kc ta tc uv v w
  rw [if_neg h1, if_neg h1]
  by_cases h2 : e.kind = 2
  · rw [if_pos h2, if_pos h2, h2]
    exact valMeter us hul _ _ e ka kc ta tc uv v w hU
  rw [if_neg h2, if_neg h2]
  have hl1 : 1 ≤ vs.length := by omega
  rcases hv with ⟨rfl, _⟩ | ⟨b, o, cap, rfl, hb, hc⟩
  · simp at hl1
  have c0 := hc 0 (by omega)
  rw [Nat.add_zero] at c0
  by_cases h6 : e.kind = 6
  · rw [if_pos h6, if_pos h6, h6]
    exact valPart _ _ e ka kc ta tc uv b o cap _ _ w hl1 hl hb c0
  rw [if_neg h6, if_neg h6]
  by_cases h10 : e.kind = 10
  · have h9n : ¬ e.kind = 9 := by omega
    rw [if_neg h9n, if_neg h9n, if_pos h10, if_pos h10, h10]
    exact valSteps _ _ e ka kc ta tc uv b o cap _ _ w hl1 hl hb c0 hT htl
  have hl2 : 2 ≤ vs.length := by omega
  have c1 := hc 1 (by omega)
  have ho1 : okB (vs.getD 1 0) = true := hok _ (by
    have : vs.getD 1 0 = vs[1] := by simp [List.getD, show 1 < vs.length by omega]
    rw [this]; exact List.getElem_mem _)
  by_cases h9 : e.kind = 9
  · rw [if_pos h9, if_pos h9, h9]
    exact valIf _ _ e ka kc ta tc uv b o cap _ _ w hl2 hl hb c1
  rw [if_neg h9, if_neg h9, if_neg h10, if_neg h10]
  rcases pair_cases hk h1 h2 h6 h9 h10 with h | h | h | h | h
  · rw [h]; exact valPair3 _ _ e ka kc ta tc uv b o cap _ _ _ w hl2 hl hb c0 c1 ho1
  · rw [h]; exact valPair4 _ _ e ka kc ta tc uv b o cap _ _ _ w hl2 hl hb c0 c1 ho1
  · rw [h]; exact valPair5 _ _ e ka kc ta tc uv b o cap _ _ _ w hl2 hl hb c0 c1 ho1
  · rw [h]; exact valPair7 _ _ e ka kc ta tc uv b o cap _ _ _ w hl2 hl hb c0 c1 ho1
  · rw [h]; exact valPair8 _ _ e ka kc ta tc uv b o cap _ _ _ w hl2 hl hb c0 c1 ho1
end Go.Proofs.YtnchgeiinkaefaaGreatDoor.Rule
end

section
/-
  impl's run of a tariff: the list of those that have begun, in memory, and what is still to come.
-/
namespace Go.Proofs.YtnchgeiinkaefaaGreatDoor.Rule
set_option linter.unusedVariables false
open Go.RowKit Tiers
open Kinds hiding hide unhide below_trans ext_toList
open Coin (okB addV addB timesV fitB partV partB)
open Draw (grown_trans grown_none grown_of_below below_of)

/-- one that has begun -/
structure Fr where
  f : Ex
  ka : Option Addr
  kc : Nat
  ta : Option Addr
  tc : Nat
  vs : List Int
  vv : Value
/-- its cells -/
def Fr.cells (x : Fr) : List Value := [kindV x.f.kind, .int .i64 x.f.kind, .int .i64 x.f.num, .string x.f.meter, .slice x.ka x.f.kids.length x.kc, .slice x.ta x.f.tiers.length x.tc, x.vv]
/-- the innermost first; in memory it is the last -/
def flat7 : List Fr → List Value
  | [] => []
  | x :: st => flat7 st ++ x.cells
theorem flat7_len : ∀ st : List Fr, (flat7 st).length = st.length * 7
  | [] => rfl
  | x :: st => by rw [flat7, List.length_append, flat7_len st]; simp [Fr.cells]; omega

/-- what is still to come -/
def Cont (us : List Uses.U) : List Fr → Int → Nat → Nat → Int → Nat → Nat → Prop
  | [], v, c, l, rv, rc, rl => rc = c ∧ rl = l ∧ rv = if c = 0 then v else 0
  | x :: st, v, c, l, rv, rc, rl => x.vs.length ≤ 2 ∧ if c = 0 then okB v = true ∧ ∃ r c' l', Rest us x.f (x.vs ++ [v]) l r c' l' ∧ Cont us st r c' l' rv rc rl else rc = c ∧ rl = l ∧ rv = 0
theorem Cont.bad {us : List Uses.U} {st : List Fr} {v : Int} {c l : Nat} {rv : Int} {rc rl : Nat} (h : Cont us st v c l rv rc rl) (hc : ¬ c = 0) : rc = c ∧ rl = l ∧ rv = 0 := by
  cases st with
  | nil => obtain ⟨h1, h2, h3⟩ := h; rw [if_neg hc] at h3; exact ⟨h1, h2, h3⟩
  | cons x st => have := h.2; rw [if_neg hc] at this; exact this
/-- a kid is begun -/
theorem Cont.kid {us : List Uses.U} {x : Fr} {st : List Fr} {l i : Nat} {r : Int} {c l'' : Nat} {rv : Int} {rc rl : Nat} (h : Rest us x.f x.vs l r c l'') (k : Cont us st r c l'' rv rc rl) (hn : nextM x.f.kind x.vs = some i) (hv : x.vs.length ≤ 2) :
    ∃ v c' l', Ev us (x.f.kids.getD i E0) l v c' l' ∧ Cont us (x :: st) v c' l' rv rc rl := by
  rcases h.run hn with ⟨v, l', h1, h2, h3, h4⟩ | ⟨v, h1, h2, h3⟩
  · exact ⟨v, 0, l', h1, hv, by rw [if_pos rfl]; exact ⟨h2, r, c, l'', h4, k⟩⟩
  · exact ⟨v, c, l'', h1, hv, by rw [if_neg h2]; exact k.bad h2⟩
theorem next_len {k : Int} {vs : List Int} {i : Nat} (hk : 1 ≤ k ∧ k ≤ 10) (h : nextM k vs = some i) : vs.length ≤ 2 ∧ (i : Int) < kidsK k := by
  unfold nextM at h
  by_cases h9 : k = 9
  · subst h9
    rw [if_pos rfl] at h
    split at h
    · rename_i h0; cases h; exact ⟨by omega, by decide⟩
    split at h
    · rename_i h1
      split at h <;> cases h
      · exact ⟨by omega, by decide⟩
      · exact ⟨by omega, by decide⟩
    · cases h
  · rw [if_neg h9] at h
    split at h
    · rename_i h0
      cases h
      refine ⟨?_, h0⟩
      have : kidsK k ≤ 3 := by
        unfold kidsK
        split
        · omega
        split
        · omega
        split
        · omega
        omega
      omega
    · cases h

/-- each holds an expression that is right, and its values in a row of its own -/
structure FrOk (lo hi : Nat) (w0 W : World) (B : Nat) (x : Fr) : Prop where
  ev : ∃ d, EV lo hi w0 d (exV x.f x.ka x.kc x.ta x.tc) x.f
  all : allB x.f = true
  wt : wt x.f ≤ 1048576
  len : x.vs.length ≤ 3
  ok : ∀ v ∈ x.vs, okB v = true
  row : W.ownsRow B 3 1 x.vv x.vs.length (x.vs.map (Value.int .i64))
/-- the list g holds them all, in rows apart -/
structure Stk (lo hi : Nat) (w0 W : World) (B : Nat) (v : Value) (st : List Fr) : Prop where
  row : W.ownsRow B 207 7 v st.length (flat7 st)
  each : ∀ x ∈ st, FrOk lo hi w0 W B x
  apart : st.Pairwise fun x y => x.vv.ownBlock = none ∨ x.vv.ownBlock ≠ y.vv.ownBlock
  off : ∀ x ∈ st, x.vv.ownBlock = none ∨ x.vv.ownBlock ≠ v.ownBlock

theorem FrOk.kept {lo hi : Nat} {w0 W W' : World} {B : Nat} {x : Fr} {r : Option Nat} (h : FrOk lo hi w0 W B x) (hg : W.grownBy W' r) (hne : x.vv.ownBlock = none ∨ x.vv.ownBlock ≠ r) : FrOk lo hi w0 W' B x :=
  ⟨h.ev, h.all, h.wt, h.len, h.ok, h.row.kept hg hne⟩
theorem ne_none (v : Value) : v.ownBlock = none ∨ v.ownBlock ≠ (none : Option Nat) := by cases h : v.ownBlock <;> simp
theorem Stk.kept {lo hi : Nat} {w0 W W' : World} {B : Nat} {v : Value} {st : List Fr} (h : Stk lo hi w0 W B v st) (hb : Below W.heap.size W W') : Stk lo hi w0 W' B v st := by
  have hg := grown_of_below hb none
  exact ⟨h.row.kept hg (ne_none _), fun x hx => (h.each x hx).kept hg (ne_none _), h.apart, h.off⟩
theorem Stk.nil (lo hi : Nat) (w0 W : World) (B : Nat) : Stk lo hi w0 W B (.slice none 0 0) [] := ⟨World.ownsRow_nil _ _ _ _, by simp, by simp, by simp⟩
theorem FrOk.blockLt {lo hi : Nat} {w0 W : World} {B : Nat} {x : Fr} (h : FrOk lo hi w0 W B x) {k : Nat} (hk : x.vv.ownBlock = some k) : k < W.heap.size := (h.row.lt k hk).2

/-- one more begins -/
theorem Stk.push {lo hi : Nat} {w0 W W' : World} {B : Nat} {v : Value} {st : List Fr} {x : Fr} {g cap : Nat} (h : Stk lo hi w0 W B v st) (hx : ∃ d, EV lo hi w0 d (exV x.f x.ka x.kc x.ta x.tc) x.f) (ha : allB x.f = true) (hw : Rule.wt x.f ≤ 1048576) (hv : x.vv = .slice none 0 0) (hvs : x.vs = [])
    (hr : W'.ownsRow B 207 7 (.slice (some ⟨g, 0, none⟩) (st.length + 1) cap) (st.length + 1) (flat7 st ++ x.cells)) (hg : W.grownBy W' v.ownBlock) (hat : v.ownBlock = some g ∨ g = W.heap.size) :
    Stk lo hi w0 W' B (.slice (some ⟨g, 0, none⟩) (st.length + 1) cap) (x :: st) := by
  have hb : (x.vv).ownBlock = none := by rw [hv]; rfl
  refine ⟨hr, ?_, ?_, ?_⟩
  · intro y hy
    rcases List.mem_cons.1 hy with rfl | hy
    · exact ⟨hx, ha, hw, by rw [hvs]; simp, by rw [hvs]; simp, by rw [hv, hvs]; exact World.ownsRow_nil _ _ _ _⟩
    · exact (h.each y hy).kept hg (h.off y hy)
  · exact List.pairwise_cons.2 ⟨fun y _ => .inl hb, h.apart⟩
  · intro y hy
    rcases List.mem_cons.1 hy with rfl | hy
    · exact .inl hb
    · cases hbl : y.vv.ownBlock with
      | none => exact .inl rfl
      | some k =>
        right
        show some k ≠ some g
        rcases hat with hat | hat
        · have := h.off y hy
          rw [hbl] at this
          rcases this with h' | h'
          · cases h'
          · rw [hat] at h'; exact h'
        · have := (h.each y hy).blockLt hbl
          intro e; cases e; omega
/-- the innermost is done -/
theorem Stk.pop {lo hi : Nat} {w0 W : World} {B : Nat} {g n cap : Nat} {x : Fr} {st : List Fr} (h : Stk lo hi w0 W B (.slice (some ⟨g, 0, none⟩) n cap) (x :: st)) : Stk lo hi w0 W B (.slice (some ⟨g, 0, none⟩) st.length cap) st := by
  have hr := h.row
  have e : n = st.length + 1 := by
    rcases hr.2 with ⟨h', _⟩ | ⟨g', cap', cur, h', _⟩
    · cases h'
    · simp only [Value.slice.injEq] at h'; exact h'.2.1
  subst e
  exact ⟨ownsRow_pop (flat7_len st) hr, fun y hy => h.each y (List.mem_cons_of_mem _ hy), (List.pairwise_cons.1 h.apart).2, fun y hy => h.off y (List.mem_cons_of_mem _ hy)⟩
/-- the innermost has one more value -/
theorem Stk.value {lo hi : Nat} {w0 W W1 : World} {B : Nat} {g n cap : Nat} {x : Fr} {st : List Fr} {m : Int} {g' cap' : Nat} (h : Stk lo hi w0 W B (.slice (some ⟨g, 0, none⟩) n cap) (x :: st)) (hl : x.vs.length ≤ 2) (hm : okB m = true)
    (hr : W1.ownsRow B 3 1 (.slice (some ⟨g', 0, none⟩) (x.vs.length + 1) cap') (x.vs.length + 1) (x.vs.map (Value.int .i64) ++ [.int .i64 m])) (hg : W.grownBy W1 x.vv.ownBlock) (hat : x.vv.ownBlock = some g' ∨ g' = W.heap.size) :
    Stk lo hi w0 (W1.setCell ⟨g, st.length * 7 + 6, none⟩ (.slice (some ⟨g', 0, none⟩) (x.vs.length + 1) cap')) B (.slice (some ⟨g, 0, none⟩) n cap) ({ x with vs := x.vs ++ [m], vv := .slice (some ⟨g', 0, none⟩) (x.vs.length + 1) cap' } :: st) := by
  have hgv : x.vv.ownBlock = none ∨ x.vv.ownBlock ≠ some g := h.off x (List.mem_cons_self ..)
  have hgl : g < W.heap.size := (h.row.lt g rfl).2
  have hgg : some g ≠ x.vv.ownBlock := by
    rcases hgv with e | e
    · rw [e]; simp
    · exact fun e' => e e'.symm
  have hg' : some g' ≠ some g := by
    rcases hat with e | e
    · rw [← e]; exact hgg.symm
    · intro e'; cases e'; omega
  have hrow1 := h.row.kept hg (.inr hgg)
  have e : n = st.length + 1 := by
    rcases h.row.2 with ⟨h', _⟩ | ⟨_, _, _, h', _⟩
    · cases h'
    · simp only [Value.slice.injEq] at h'; exact h'.2.1
  subst e
  obtain ⟨hs, hgs⟩ := hrow1.stored (st.length * 7 + 6) (.slice (some ⟨g', 0, none⟩) (x.vs.length + 1) cap')
  refine ⟨?_, ?_, ?_, ?_⟩
  · have e2 : (flat7 (x :: st)).set (st.length * 7 + 6) (.slice (some ⟨g', 0, none⟩) (x.vs.length + 1) cap') = flat7 ({ x with vs := x.vs ++ [m], vv := .slice (some ⟨g', 0, none⟩) (x.vs.length + 1) cap' } :: st) := by
      rw [flat7, flat7, List.set_append_right _ _ (by rw [flat7_len]; omega), flat7_len]
      have : st.length * 7 + 6 - st.length * 7 = 6 := by omega
      rw [this]; rfl
    rw [e2] at hs
    exact hs
  · intro y hy
    rcases List.mem_cons.1 hy with rfl | hy
    · have hx := h.each x (List.mem_cons_self ..)
      refine ⟨hx.ev, hx.all, hx.wt, by simp; omega, fun v hv => ?_, ?_⟩
      · rcases List.mem_append.1 hv with hv | hv
        · exact hx.ok v hv
        · rw [List.mem_singleton.1 hv]; exact hm
      · have := hr.kept hgs (.inr (show some g' ≠ some g from hg'))
        simpa using this
    · have hy1 := h.each y (List.mem_cons_of_mem _ hy)
      have hp := (List.pairwise_cons.1 h.apart).1 y hy
      refine (hy1.kept hg ?_).kept hgs (h.off y (List.mem_cons_of_mem _ hy))
      cases hb : y.vv.ownBlock with
      | none => exact .inl rfl
      | some k =>
        right
        rcases hp with e | e
        · rw [e]; simp
        · rw [hb] at e; exact e.symm
  · refine List.pairwise_cons.2 ⟨fun y hy => ?_, (List.pairwise_cons.1 h.apart).2⟩
    right
    show some g' ≠ y.vv.ownBlock
    have hp := (List.pairwise_cons.1 h.apart).1 y hy
    cases hb : y.vv.ownBlock with
    | none => simp
    | some k =>
      rcases hat with e | e
      · rw [← e]
        rcases hp with h' | h'
        · rw [h'] at e; cases e
        · rw [hb] at h'; exact h'
      · have := (h.each y (List.mem_cons_of_mem _ hy)).blockLt hb
        intro e'; cases e'; omega
  · intro y hy
    rcases List.mem_cons.1 hy with rfl | hy
    · exact .inr hg'
    · exact h.off y (List.mem_cons_of_mem _ hy)
/-- what lies in memory of the innermost -/
theorem Stk.top {lo hi : Nat} {w0 W : World} {B : Nat} {g n cap : Nat} {x : Fr} {st : List Fr} (h : Stk lo hi w0 W B (.slice (some ⟨g, 0, none⟩) n cap) (x :: st)) :
    n = st.length + 1 ∧ W.cell? ⟨g, st.length * 7, none⟩ = some (kindV x.f.kind) ∧ W.cell? ⟨g, st.length * 7 + 1, none⟩ = some (.int .i64 x.f.kind) ∧ W.cell? ⟨g, st.length * 7 + 2, none⟩ = some (.int .i64 x.f.num) ∧ W.cell? ⟨g, st.length * 7 + 3, none⟩ = some (.string x.f.meter) ∧ W.cell? ⟨g, st.length * 7 + 4, none⟩ = some (.slice x.ka x.f.kids.length x.kc) ∧ W.cell? ⟨g, st.length * 7 + 5, none⟩ = some (.slice x.ta x.f.tiers.length x.tc) ∧ W.cell? ⟨g, st.length * 7 + 6, none⟩ = some x.vv ∧ W.frozen? ⟨g, st.length * 7 + 6, none⟩ = false := by
  have e : n = st.length + 1 := by
    rcases h.row.2 with ⟨h', _⟩ | ⟨_, _, _, h', _⟩
    · cases h'
    · simp only [Value.slice.injEq] at h'; exact h'.2.1
  subst e
  have hr := h.row
  have hc : ∀ j u, x.cells[j]? = some u → W.cell? ⟨g, st.length * 7 + j, none⟩ = some u := by
    intro j u hu
    have hj : j < 7 := by
      have := (List.getElem?_eq_some_iff.1 hu).1
      simpa [Fr.cells] using this
    have := hr.cellAt (st.length * 7 + j) (by omega)
    rw [this, flat7, List.getElem?_append_right (by rw [flat7_len]; omega), flat7_len]
    have e : st.length * 7 + j - st.length * 7 = j := by omega
    rw [e]; exact hu
  exact ⟨rfl, hc 0 _ rfl, hc 1 _ rfl, hc 2 _ rfl, hc 3 _ rfl, hc 4 _ rfl, hc 5 _ rfl, hc 6 _ rfl, hr.frozenAt _⟩
/-- the values of one, to be read -/
theorem FrOk.vr {lo hi : Nat} {w0 W : World} {B : Nat} {x : Fr} (h : FrOk lo hi w0 W B x) : VR W x.vv x.vs := by
  have hr := h.row
  rcases hr.2 with ⟨h1, h2⟩ | ⟨g, cap, cur, h1, hB, hgg, _⟩
  · left
    have : x.vs.length = 0 := h2
    exact ⟨List.eq_nil_of_length_eq_zero this, _, _, h1⟩
  · right
    have hlt := hr.lt g (by rw [h1]; rfl)
    refine ⟨g, 0, cap, h1, hlt.2, fun i hi => ?_⟩
    have := hr.cells (g := g) (by rw [h1]; rfl) i (.int .i64 (x.vs.getD i 0)) (by simp [List.getD, hi])
    rw [Addr.add_lit] at this
    exact this
end Go.Proofs.YtnchgeiinkaefaaGreatDoor.Rule
end
