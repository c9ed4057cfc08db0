/-
  The methods 'next' and 'value' of the kinds.
-/
import Derived.Test.YtdpefmjlmpjjbaaRunS4
import Derived.Test.YtdpefmjlmpjjbaaStepI2
namespace Go.Proofs.Ytdpefmjlmpjjbaa.Rule
set_option linter.unusedVariables false
open Go.RowKit Tiers
open Kinds hiding hide unhide below_trans ext_toList
open Coin (okB addV addB timesV fitB partV partB)

/-- the slice v holds the values vs -/
def VR (W : World) (v : Value) (vs : List Int) : Prop :=
  (vs = [] ∧ ∃ a c, v = .slice a 0 c) ∨ ∃ b o cap, v = .slice (some ⟨b, o, none⟩) vs.length cap ∧ b < W.heap.size ∧ ∀ i, i < vs.length → W.cell? ⟨b, o + i, none⟩ = some (.int .i64 (vs.getD i 0))
theorem VR.form {W : World} {v : Value} {vs : List Int} (h : VR W v vs) : ∃ a c, v = .slice a vs.length c := by
  rcases h with ⟨rfl, a, c, rfl⟩ | ⟨b, o, cap, rfl, _⟩
  · exact ⟨_, _, rfl⟩
  · exact ⟨_, _, rfl⟩
theorem VR.kept {W W' : World} {v : Value} {vs : List Int} (h : VR W v vs) (hb : Below W.heap.size W W') : VR W' v vs := by
  rcases h with h | ⟨b, o, cap, rfl, h1, h2⟩
  · exact .inl h
  · exact .inr ⟨b, o, cap, rfl, Nat.lt_of_lt_of_le h1 hb.size, fun i hi => (hb.cell (p := ⟨b, o + i, none⟩) h1).trans (h2 i hi)⟩

/-! ### next -/
def NextP (k : Int) (vs : List Int) (w : World) (x : Ending) (w' : World) : Prop := ∃ (p : Nat) (b : Bool), x = .returned (.tuple #[.int .i64 (p : Int), .bool b]) ∧ (b = true → nextM k vs = some p) ∧ (b = false → nextM k vs = none) ∧ Below w.heap.size w w'
def nextF (k : Int) : Nat := if k = 9 then 83 else 65
theorem mNextNum (s : ByteArray) (n : Int) (w : World) : (method 223 81 (.agg #[.string s, .int .i64 n]) "loop.example/scot/impl.next").run Try.prog w = .ok (65, .agg #[.string s, .int .i64 n]) w := by kernel_rfl
theorem mNextMeter (s : ByteArray) (n : Int) (w : World) : (method 223 82 (.agg #[.string s, .int .i64 n]) "loop.example/scot/impl.next").run Try.prog w = .ok (65, .agg #[.string s, .int .i64 n]) w := by kernel_rfl
theorem mNextPair (s : ByteArray) (n : Int) (f : Value) (w : World) : (method 223 85 (.agg #[.string s, .int .i64 n, f]) "loop.example/scot/impl.next").run Try.prog w = .ok (65, .agg #[.string s, .int .i64 n]) w := by kernel_rfl
theorem mNextPart (s : ByteArray) (n : Int) (w : World) : (method 223 86 (.agg #[.string s, .int .i64 n]) "loop.example/scot/impl.next").run Try.prog w = .ok (65, .agg #[.string s, .int .i64 n]) w := by kernel_rfl
theorem mNextIf (s : ByteArray) (n : Int) (w : World) : (method 223 87 (.agg #[.string s, .int .i64 n]) "loop.example/scot/impl.next").run Try.prog w = .ok (83, .agg #[.string s, .int .i64 n]) w := by kernel_rfl
theorem mNextSteps (s : ByteArray) (n : Int) (w : World) : (method 223 88 (.agg #[.string s, .int .i64 n]) "loop.example/scot/impl.next").run Try.prog w = .ok (65, .agg #[.string s, .int .i64 n]) w := by kernel_rfl
theorem mNext {k : Int} (h : 1 ≤ k ∧ k ≤ 10) (w : World) : (method 223 (typeK k) (recK k) "loop.example/scot/impl.next").run Try.prog w = .ok (nextF k, lookV k) w := by
  rcases cases10 h with rfl | rfl | rfl | rfl | rfl | rfl | rfl | rfl | rfl | rfl
  · exact mNextNum _ _ w
  · exact mNextMeter _ _ w
  · exact mNextPair _ _ _ w
  · exact mNextPair _ _ _ w
  · exact mNextPair _ _ _ w
  · exact mNextPart _ _ w
  · exact mNextPair _ _ _ w
  · exact mNextPair _ _ _ w
  · exact mNextIf _ _ w
  · exact mNextSteps _ _ w
theorem eNext {k : Int} (h : 1 ≤ k ∧ k ≤ 10) (args : Array Value) (w : World) : (callFunc (nextF k) args).run Try.prog w = .ok (.enter (nextF k) args) w := by
  rcases cases10 h with rfl | rfl | rfl | rfl | rfl | rfl | rfl | rfl | rfl | rfl
  all_goals kernel_rfl

set_option maxHeartbeats 1000000 in
theorem nextLook (s : ByteArray) (q : Int) (a : Option Addr) (n c : Nat) (w : World) (hn : n ≤ 3) :
    Calls Try.prog 65 #[.agg #[.string s, .int .i64 q], .slice a n c] w fun x w' => x = .returned (.tuple #[.int .i64 (n : Int), .bool (decide ((n : Int) < q))]) ∧ Below w.heap.size w w' := by
  go_enter Try.func65, Try.ntmps65
  go_wp2_with (fail)
  go_quiet (fail)
  go_wp2_with (fail)
  go_ret2
  exact ⟨rfl, below_drewN' (below_alloc _ _) _⟩

set_option maxHeartbeats 1000000 in
theorem nextIf (s : ByteArray) (q : Int) (v : Value) (vs : List Int) (w : World) (hv : VR w v vs) (hn : vs.length ≤ 3) :
    Calls Try.prog 83 #[.agg #[.string s, .int .i64 q], v] w fun x w' => NextP 9 vs w x w' := by
  by_cases h0 : vs.length = 0
  · obtain ⟨a, c, rfl⟩ := hv.form
    rw [h0]
    have HN : Hid (nextM 9 vs = some 0) := hide (by show (if vs.length = 0 then some 0 else _) = _; rw [if_pos h0])
    clear hv h0 hn
    go_enter Try.func83, Try.ntmps83
    go_wp2_with (fail)
    go_ret2
    exact ⟨0, true, rfl, fun _ => unhide HN, fun h => (by cases h), below_alloc _ _⟩
  rcases hv with ⟨rfl, _⟩ | ⟨b, o, cap, rfl, hb, hc⟩
  · simp at h0
  have c0' := hc 0 (by omega)
  rw [Nat.add_zero] at c0'
  have HN : Hid (nextM 9 vs = if vs.length = 1 then (if 0 < vs.getD 0 0 then some 1 else some 2) else none) := hide (by show (if vs.length = 0 then some 0 else _) = _; rw [if_neg h0])
  have h0' : ((vs.length : Int) == 0) = false := by simpa using h0
  clear hc
  generalize vs.getD 0 0 = a at *
  generalize vs.length = n at *
  by_cases h1 : n = 1
  · have h1' : ((n : Int) == 1) = true := by simp [h1]
    rw [if_pos h1] at HN
    by_cases ha : 0 < a
    · rw [if_pos ha] at HN
      clear h1
      go_enter Try.func83, Try.ntmps83
      go_wp2_with (fail)
      go_ret2
      exact ⟨1, true, rfl, fun _ => unhide HN, fun h => (by cases h), below_alloc _ _⟩
    · rw [if_neg ha] at HN
      clear h1
      go_enter Try.func83, Try.ntmps83
      go_wp2_with (fail)
      go_ret2
      exact ⟨2, true, rfl, fun _ => unhide HN, fun h => (by cases h), below_alloc _ _⟩
  · have h1' : ((n : Int) == 1) = false := beq_eq_false_iff_ne.2 (by omega)
    rw [if_neg h1] at HN
    by_cases ha : 0 < a
    · clear h1
      go_enter Try.func83, Try.ntmps83
      go_wp2_with (fail)
      go_ret2
      exact ⟨1, false, rfl, fun h => (by cases h), fun _ => unhide HN, below_alloc _ _⟩
    · clear h1
      go_enter Try.func83, Try.ntmps83
      go_wp2_with (fail)
      go_ret2
      exact ⟨2, false, rfl, fun h => (by cases h), fun _ => unhide HN, below_alloc _ _⟩

theorem nextI {k : Int} (h : 1 ≤ k ∧ k ≤ 10) (v : Value) (vs : List Int) (w : World) (hv : VR w v vs) (hn : vs.length ≤ 3) :
    Calls Try.prog (nextF k) #[lookV k, v] w fun x w' => NextP k vs w x w' := by
  by_cases h9 : k = 9
  · subst h9
    exact nextIf _ _ v vs w hv hn
  · obtain ⟨a, c, rfl⟩ := hv.form
    have e1 : nextF k = 65 := if_neg h9
    rw [e1]
    refine (nextLook (wordK k) (kidsK k) a vs.length c w hn).mono ?_
    rintro x w' ⟨rfl, hb⟩
    refine ⟨vs.length, _, rfl, fun h => ?_, fun h => ?_, hb⟩
    · unfold nextM; rw [if_neg h9, if_pos (of_decide_eq_true h)]
    · unfold nextM; rw [if_neg h9, if_neg (of_decide_eq_false h)]

/-! ### value -/
theorem below_drew {B : Nat} {a w : World} (h : Below B a w) : Below B a w.drew := ⟨h.os, h.tape, h.output, h.size, h.block⟩
def valF (k : Int) : Nat := if k = 1 then 69 else if k = 2 then 72 else if k = 6 then 79 else if k = 9 then 84 else if k = 10 then 87 else 76
theorem mValNum (s : ByteArray) (n : Int) (w : World) : (method 223 81 (.agg #[.string s, .int .i64 n]) "loop.example/scot/impl.value").run Try.prog w = .ok (69, .agg #[.string s, .int .i64 n]) w := by kernel_rfl
theorem mValMeter (s : ByteArray) (n : Int) (w : World) : (method 223 82 (.agg #[.string s, .int .i64 n]) "loop.example/scot/impl.value").run Try.prog w = .ok (72, .agg #[.string s, .int .i64 n]) w := by kernel_rfl
theorem mValPair (s : ByteArray) (n : Int) (f : Value) (w : World) : (method 223 85 (.agg #[.string s, .int .i64 n, f]) "loop.example/scot/impl.value").run Try.prog w = .ok (76, .agg #[.string s, .int .i64 n, f]) w := by kernel_rfl
theorem mValPart (s : ByteArray) (n : Int) (w : World) : (method 223 86 (.agg #[.string s, .int .i64 n]) "loop.example/scot/impl.value").run Try.prog w = .ok (79, .agg #[.string s, .int .i64 n]) w := by kernel_rfl
theorem mValIf (s : ByteArray) (n : Int) (w : World) : (method 223 87 (.agg #[.string s, .int .i64 n]) "loop.example/scot/impl.value").run Try.prog w = .ok (84, .agg #[.string s, .int .i64 n]) w := by kernel_rfl
theorem mValSteps (s : ByteArray) (n : Int) (w : World) : (method 223 88 (.agg #[.string s, .int .i64 n]) "loop.example/scot/impl.value").run Try.prog w = .ok (87, .agg #[.string s, .int .i64 n]) w := by kernel_rfl
theorem mVal {k : Int} (h : 1 ≤ k ∧ k ≤ 10) (w : World) : (method 223 (typeK k) (recK k) "loop.example/scot/impl.value").run Try.prog w = .ok (valF k, recK k) w := by
  rcases cases10 h with rfl | rfl | rfl | rfl | rfl | rfl | rfl | rfl | rfl | rfl
  · exact mValNum _ _ w
  · exact mValMeter _ _ w
  · exact mValPair _ _ _ w
  · exact mValPair _ _ _ w
  · exact mValPair _ _ _ w
  · exact mValPart _ _ w
  · exact mValPair _ _ _ w
  · exact mValPair _ _ _ w
  · exact mValIf _ _ w
  · exact mValSteps _ _ w
theorem eVal {k : Int} (h : 1 ≤ k ∧ k ≤ 10) (args : Array Value) (w : World) : (callFunc (valF k) args).run Try.prog w = .ok (.enter (valF k) args) w := by
  rcases cases10 h with rfl | rfl | rfl | rfl | rfl | rfl | rfl | rfl | rfl | rfl
  all_goals kernel_rfl

set_option maxHeartbeats 1000000 in
theorem valNum (s : ByteArray) (q : Int) (e : Ex) (ka : Option Addr) (kc : Nat) (ta : Option Addr) (tc : Nat) (uv v : Value) (w : World) :
    Calls Try.prog 69 #[.agg #[.string s, .int .i64 q], exV e ka kc ta tc, uv, v] w fun x w' => x = .returned (.tuple #[.int .i64 e.num, .bool true]) ∧ Below w.heap.size w w' := by
  go_enter Try.func69, Try.ntmps69
  go_wp2_with (fail)
  go_ret2
  exact ⟨rfl, below2 _ _ _⟩

set_option maxHeartbeats 1000000 in
theorem valMeter (us : List Uses.U) (hul : us.length ≤ 1048576) (s : ByteArray) (q : Int) (e : Ex) (ka : Option Addr) (kc : Nat) (ta : Option Addr) (tc : Nat) (uv v : Value) (w : World) (hU : Uses.UR w uv us) :
    Calls Try.prog 72 #[.agg #[.string s, .int .i64 q], exV e ka kc ta tc, uv, v] w fun x w' => x = .returned (.tuple #[.int .i64 (Uses.ofV e.meter us), .bool (okB (Uses.ofV e.meter us))]) ∧ Below w.heap.size w w' := by
  have HU := hide hU
  clear hU
  go_enter Try.func72, Try.ntmps72
  go_wp2_with (fail)
  refine (Uses.ofI _ us _ _ ((unhide HU).kept (below2 _ _ _)) hul).mono ?_
  rintro x w1 ⟨rfl, hb⟩
  have HB := hide ((below2 _ _ _).trans (hb.mono (by simp; omega)))
  clear hb
  go_wp2_with (fail)
  refine (Coin.okI _ _).mono ?_
  rintro x w2 ⟨rfl, rfl⟩
  go_wp2_with (fail)
  go_ret2
  exact ⟨rfl, unhide HB⟩

set_option maxHeartbeats 1000000 in
theorem valIf (s : ByteArray) (q : Int) (e : Ex) (ka : Option Addr) (kc : Nat) (ta : Option Addr) (tc : Nat) (uv : Value) (b o cap n : Nat) (m : Int) (w : World) (hn : 2 ≤ n) (hn3 : n ≤ 3) (hb : b < w.heap.size) (c1 : w.cell? ⟨b, o + 1, none⟩ = some (.int .i64 m)) :
    Calls Try.prog 84 #[.agg #[.string s, .int .i64 q], exV e ka kc ta tc, uv, .slice (some ⟨b, o, none⟩) n cap] w fun x w' => x = .returned (.tuple #[.int .i64 m, .bool true]) ∧ Below w.heap.size w w' := by
  have n1 : (1 : Int) < (n : Int) := by omega
  have hb1 : b < w.heap.size + 1 := by omega
  go_enter Try.func84, Try.ntmps84
  go_wp2_with (fail)
  go_ret2
  exact ⟨rfl, below2 _ _ _⟩

set_option maxHeartbeats 1000000 in
theorem valPart (s : ByteArray) (q : Int) (e : Ex) (ka : Option Addr) (kc : Nat) (ta : Option Addr) (tc : Nat) (uv : Value) (b o cap n : Nat) (m : Int) (w : World) (hn : 1 ≤ n) (hn3 : n ≤ 3) (hb : b < w.heap.size) (c1 : w.cell? ⟨b, o, none⟩ = some (.int .i64 m)) :
    Calls Try.prog 79 #[.agg #[.string s, .int .i64 q], exV e ka kc ta tc, uv, .slice (some ⟨b, o, none⟩) n cap] w fun x w' => x = .returned (.tuple #[.int .i64 (partV m e.num 10000), .bool (partB m e.num 10000)]) ∧ Below w.heap.size w w' := by
  have n1 : (0 : Int) < (n : Int) := by omega
  have n0 : 0 < n := by omega
  have hb1 : b < w.heap.size + 1 := by omega
  obtain ⟨W1, hW1⟩ : ∃ W1, (w.alloc (.cells #[.string s, .int .i64 q] 86)).alloc (.cells #[.int .i64 e.kind, .int .i64 e.num, .string e.meter, .slice ka e.kids.length kc, .slice ta e.tiers.length tc] 26) = W1 := ⟨_, rfl⟩
  have HW1 := hide hW1
  have hb2 : Below w.heap.size w W1 := by rw [← hW1]; exact below2 _ _ _
  have HB := hide hb2
  have c1' := (hb2.cell (p := ⟨b, o, none⟩) hb).trans c1
  have c4 : W1.cell? ⟨w.heap.size + 1, 1, none⟩ = some (.int .i64 e.num) := by
    rw [← hW1]
    have := (new5 (w.alloc (.cells #[.string s, .int .i64 q] 86)) (.int .i64 e.kind) (.int .i64 e.num) (.string e.meter) (.slice ka e.kids.length kc) (.slice ta e.tiers.length tc) 26).2.1
    rw [World.size_alloc] at this
    exact this
  have y1 : b < W1.heap.size := Nat.lt_of_lt_of_le hb hb2.size
  have y2 : w.heap.size + 1 < W1.heap.size := by rw [← hW1]; simp
  clear hW1 hb2 c1
  go_enter Try.func79, Try.ntmps79
  go_wp2_with (fail)
  rw [unhide HW1]
  go_region_held3 (fun ww => ww.cell? ⟨b, o, none⟩ = some (.int .i64 m) ∧ ww.cell? ⟨w.heap.size + 1, 1, none⟩ = some (.int .i64 e.num)) (go_keep)
    (first | (go_at_call 80; refine (Coin.partI _ _ _ W1.drew).mono ?_; rintro x w2 ⟨rfl, kk, hkk⟩; have hb2 : Below W1.heap.size W1 w2 := (by rw [hkk]; exact ⟨rfl, rfl, rfl, Nat.le_refl _, fun _ _ => rfl⟩); clear hkk; have p0 := (hb2.cell (p := ⟨b, o, none⟩) y1).trans c1'; have p2 := (hb2.cell (p := ⟨w.heap.size + 1, 1, none⟩) y2).trans c4))
  have HB2 := hide (below_trans (unhide HB) hb2)
  clear p0 p2 c1' c4 hb2
  go_wp2_with (fail)
  go_ret2
  exact ⟨rfl, unhide HB2⟩

set_option maxHeartbeats 1000000 in
theorem valSteps (s : ByteArray) (q : Int) (e : Ex) (ka : Option Addr) (kc : Nat) (ta : Option Addr) (tc : Nat) (uv : Value) (b o cap n : Nat) (m : Int) (w : World) (hn : 1 ≤ n) (hn3 : n ≤ 3) (hb : b < w.heap.size) (c1 : w.cell? ⟨b, o, none⟩ = some (.int .i64 m)) (hT : TR w (.slice ta e.tiers.length tc) e.tiers) (htl : e.tiers.length ≤ 1048576) :
    Calls Try.prog 87 #[.agg #[.string s, .int .i64 q], exV e ka kc ta tc, uv, .slice (some ⟨b, o, none⟩) n cap] w fun x w' => x = .returned (.tuple #[.int .i64 (stepV e.tiers m), .bool (stepB e.tiers m)]) ∧ Below w.heap.size w w' := by
  have n1 : (0 : Int) < (n : Int) := by omega
  have n0 : 0 < n := by omega
  have hb1 : b < w.heap.size + 1 := by omega
  obtain ⟨W1, hW1⟩ : ∃ W1, (w.alloc (.cells #[.string s, .int .i64 q] 88)).alloc (.cells #[.int .i64 e.kind, .int .i64 e.num, .string e.meter, .slice ka e.kids.length kc, .slice ta e.tiers.length tc] 26) = W1 := ⟨_, rfl⟩
  have HW1 := hide hW1
  have hb2 : Below w.heap.size w W1 := by rw [← hW1]; exact below2 _ _ _
  have HB := hide hb2
  have HT := hide (hT.kept hb2)
  have c1' := (hb2.cell (p := ⟨b, o, none⟩) hb).trans c1
  have c4 : W1.cell? ⟨w.heap.size + 1, 4, none⟩ = some (.slice ta e.tiers.length tc) := by
    rw [← hW1]
    have := (new5 (w.alloc (.cells #[.string s, .int .i64 q] 88)) (.int .i64 e.kind) (.int .i64 e.num) (.string e.meter) (.slice ka e.kids.length kc) (.slice ta e.tiers.length tc) 26).2.2.2.2
    rw [World.size_alloc] at this
    exact this
  have y1 : b < W1.heap.size := Nat.lt_of_lt_of_le hb hb2.size
  have y2 : w.heap.size + 1 < W1.heap.size := by rw [← hW1]; simp
  clear hW1 hb2 hT c1
  go_enter Try.func87, Try.ntmps87
  go_wp2_with (fail)
  rw [unhide HW1]
  go_region_held3 (fun ww => ww.cell? ⟨b, o, none⟩ = some (.int .i64 m) ∧ ww.cell? ⟨w.heap.size + 1, 4, none⟩ = some (.slice ta e.tiers.length tc)) (go_keep)
    (first | (go_at_call 89; refine (stepI _ e.tiers _ W1.drew ((unhide HT).kept ⟨rfl, rfl, rfl, Nat.le_refl _, fun _ _ => rfl⟩) htl).mono ?_; rintro x w2 ⟨rfl, hb2'⟩; have hb2 : Below W1.heap.size W1 w2 := ⟨hb2'.os, hb2'.tape, hb2'.output, hb2'.size, hb2'.block⟩; clear hb2'; have p0 := (hb2.cell (p := ⟨b, o, none⟩) y1).trans c1'; have p2 := (hb2.cell (p := ⟨w.heap.size + 1, 4, none⟩) y2).trans c4))
  have HB2 := hide (below_trans (unhide HB) hb2)
  clear p0 p2 c1' c4 hb2
  go_wp2_with (fail)
  go_ret2
  exact ⟨rfl, unhide HB2⟩

set_option maxHeartbeats 1000000 in
theorem diffI (a b : Int) (w : World) (hb : okB b = true) : Calls Try.prog 31 #[.int .i64 a, .int .i64 b] w fun x w' => x = .returned (.tuple #[.int .i64 (addV a (-b)), .bool (addB a (-b))]) ∧ w' = w := by
  obtain ⟨b1, b2⟩ := okB_bd hb
  clear hb
  go_enter Try.func31, Try.ntmps31
  go_wp2_with (go_at_call 30; refine (Coin.addI _ _ _).mono ?_; rintro x w' ⟨rfl, rfl⟩)
  go_ret2
  exact ⟨rfl, rfl⟩

theorem lesserI (a b : Int) (w : World) : Calls Try.prog 33 #[.int .i64 a, .int .i64 b] w fun x w' => x = .returned (.tuple #[.int .i64 (if b < a then b else a), .bool true]) ∧ w' = w := by
  by_cases h : b < a
  · rw [if_pos h]
    have h2 : decide (b < a) = true := decide_eq_true h
    go_enter Try.func33, Try.ntmps33
    go_wp2_with (fail)
    go_ret2
    exact ⟨rfl, rfl⟩
  · rw [if_neg h]
    have h2 : decide (b < a) = false := decide_eq_false h
    go_enter Try.func33, Try.ntmps33
    go_wp2_with (fail)
    go_ret2
    exact ⟨rfl, rfl⟩

theorem greaterI (a b : Int) (w : World) : Calls Try.prog 34 #[.int .i64 a, .int .i64 b] w fun x w' => x = .returned (.tuple #[.int .i64 (if b < a then a else b), .bool true]) ∧ w' = w := by
  by_cases h : b < a
  · rw [if_pos h]
    have h2 : decide (b < a) = true := decide_eq_true h
    go_enter Try.func34, Try.ntmps34
    go_wp2_with (fail)
    go_ret2
    exact ⟨rfl, rfl⟩
  · rw [if_neg h]
    by_cases h3 : a = b
    · subst h3
      go_enter Try.func34, Try.ntmps34
      go_wp2_with (fail)
      go_ret2
      exact ⟨rfl, rfl⟩
    have h2 : decide (b < a) = false := decide_eq_false h
    have h4 : a < b := by omega
    go_enter Try.func34, Try.ntmps34
    go_wp2_with (fail)
    go_ret2
    exact ⟨rfl, rfl⟩

theorem lesserV (a b V : Int) (w : World) (h : (if b < a then b else a) = V) : Calls Try.prog 33 #[.int .i64 a, .int .i64 b] w fun x w' => x = .returned (.tuple #[.int .i64 V, .bool true]) ∧ w' = w := by rw [← h]; exact lesserI a b w

theorem greaterV (a b V : Int) (w : World) (h : (if b < a then a else b) = V) : Calls Try.prog 34 #[.int .i64 a, .int .i64 b] w fun x w' => x = .returned (.tuple #[.int .i64 V, .bool true]) ∧ w' = w := by rw [← h]; exact greaterI a b w

set_option maxHeartbeats 1000000 in
theorem valPair3 (s : ByteArray) (q : Int) (e : Ex) (ka : Option Addr) (kc : Nat) (ta : Option Addr) (tc : Nat) (uv : Value) (b o cap n : Nat) (m1 m2 : Int) (w : World) (hn : 2 ≤ n) (hn3 : n ≤ 3) (hb : b < w.heap.size) (c1 : w.cell? ⟨b, o, none⟩ = some (.int .i64 m1)) (c2 : w.cell? ⟨b, o + 1, none⟩ = some (.int .i64 m2)) (ho : okB m2 = true) :
    Calls Try.prog 76 #[.agg #[.string s, .int .i64 q, .func (.func 30) #[] #[]], exV e ka kc ta tc, uv, .slice (some ⟨b, o, none⟩) n cap] w fun x w' => x = .returned (.tuple #[.int .i64 (addV m1 m2), .bool (addB m1 m2)]) ∧ Below w.heap.size w w' := by
  have n1 : (0 : Int) < (n : Int) := by omega
  have n0 : 0 < n := by omega
  have n2 : (1 : Int) < (n : Int) := by omega
  have n3 : 1 < n := by omega
  have HO := hide ho
  obtain ⟨W1, hW1⟩ : ∃ W1, (w.alloc (.cells #[.string s, .int .i64 q, .func (.func 30) #[] #[]] 85)).alloc (.cells #[.int .i64 e.kind, .int .i64 e.num, .string e.meter, .slice ka e.kids.length kc, .slice ta e.tiers.length tc] 26) = W1 := ⟨_, rfl⟩
  have HW1 := hide hW1
  have hb2 : Below w.heap.size w W1 := by rw [← hW1]; exact below2 _ _ _
  have HB := hide hb2
  have c1' := (hb2.cell (p := ⟨b, o, none⟩) hb).trans c1
  have c2' := (hb2.cell (p := ⟨b, o + 1, none⟩) hb).trans c2
  have c4 : W1.cell? ⟨w.heap.size, 2, none⟩ = some (.func (.func 30) #[] #[]) := by
    rw [← hW1, (below_alloc _ _).cell (p := ⟨w.heap.size, 2, none⟩) (by simp)]
    have e1 := (MapKept.heap_alloc w (.cells #[.string s, .int .i64 q, .func (.func 30) #[] #[]] 85)).1
    simp only [World.cell?, e1]
    simp
  have y1 : b < W1.heap.size := Nat.lt_of_lt_of_le hb hb2.size
  have y2 : w.heap.size < W1.heap.size := by rw [← hW1]; simp; omega
  clear hW1 hb2 c1 c2 ho
  go_enter Try.func76, Try.ntmps76
  go_wp2_with (fail)
  rw [unhide HW1]
  go_region_held3 (fun ww => ww.cell? ⟨b, o, none⟩ = some (.int .i64 m1) ∧ ww.cell? ⟨b, o + 1, none⟩ = some (.int .i64 m2) ∧ ww.cell? ⟨w.heap.size, 2, none⟩ = some (.func (.func 30) #[] #[])) (go_keep)
    (first | (go_at_call 30; refine (Coin.addI _ _ W1.drew).mono ?_; rintro x w2 ⟨rfl, hw2⟩; have hb2 : Below W1.heap.size W1 w2 := (by rw [hw2]; exact ⟨rfl, rfl, rfl, Nat.le_refl _, fun _ _ => rfl⟩); clear hw2; have p0 := (hb2.cell (p := ⟨b, o, none⟩) y1).trans c1'; have p1 := (hb2.cell (p := ⟨b, o + 1, none⟩) y1).trans c2'; have p2 := (hb2.cell (p := ⟨w.heap.size, 2, none⟩) y2).trans c4))
  have HB2 := hide (below_trans (unhide HB) hb2)
  clear p0 p1 p2 c1' c2' c4 hb2
  go_wp2_with (fail)
  go_ret2
  exact ⟨rfl, unhide HB2⟩

set_option maxHeartbeats 1000000 in
theorem valPair4 (s : ByteArray) (q : Int) (e : Ex) (ka : Option Addr) (kc : Nat) (ta : Option Addr) (tc : Nat) (uv : Value) (b o cap n : Nat) (m1 m2 : Int) (w : World) (hn : 2 ≤ n) (hn3 : n ≤ 3) (hb : b < w.heap.size) (c1 : w.cell? ⟨b, o, none⟩ = some (.int .i64 m1)) (c2 : w.cell? ⟨b, o + 1, none⟩ = some (.int .i64 m2)) (ho : okB m2 = true) :
    Calls Try.prog 76 #[.agg #[.string s, .int .i64 q, .func (.func 31) #[] #[]], exV e ka kc ta tc, uv, .slice (some ⟨b, o, none⟩) n cap] w fun x w' => x = .returned (.tuple #[.int .i64 (addV m1 (-m2)), .bool (addB m1 (-m2))]) ∧ Below w.heap.size w w' := by
  have n1 : (0 : Int) < (n : Int) := by omega
  have n0 : 0 < n := by omega
  have n2 : (1 : Int) < (n : Int) := by omega
  have n3 : 1 < n := by omega
  have HO := hide ho
  obtain ⟨W1, hW1⟩ : ∃ W1, (w.alloc (.cells #[.string s, .int .i64 q, .func (.func 31) #[] #[]] 85)).alloc (.cells #[.int .i64 e.kind, .int .i64 e.num, .string e.meter, .slice ka e.kids.length kc, .slice ta e.tiers.length tc] 26) = W1 := ⟨_, rfl⟩
  have HW1 := hide hW1
  have hb2 : Below w.heap.size w W1 := by rw [← hW1]; exact below2 _ _ _
  have HB := hide hb2
  have c1' := (hb2.cell (p := ⟨b, o, none⟩) hb).trans c1
  have c2' := (hb2.cell (p := ⟨b, o + 1, none⟩) hb).trans c2
  have c4 : W1.cell? ⟨w.heap.size, 2, none⟩ = some (.func (.func 31) #[] #[]) := by
    rw [← hW1, (below_alloc _ _).cell (p := ⟨w.heap.size, 2, none⟩) (by simp)]
    have e1 := (MapKept.heap_alloc w (.cells #[.string s, .int .i64 q, .func (.func 31) #[] #[]] 85)).1
    simp only [World.cell?, e1]
    simp
  have y1 : b < W1.heap.size := Nat.lt_of_lt_of_le hb hb2.size
  have y2 : w.heap.size < W1.heap.size := by rw [← hW1]; simp; omega
  clear hW1 hb2 c1 c2 ho
  go_enter Try.func76, Try.ntmps76
  go_wp2_with (fail)
  rw [unhide HW1]
  go_region_held3 (fun ww => ww.cell? ⟨b, o, none⟩ = some (.int .i64 m1) ∧ ww.cell? ⟨b, o + 1, none⟩ = some (.int .i64 m2) ∧ ww.cell? ⟨w.heap.size, 2, none⟩ = some (.func (.func 31) #[] #[])) (go_keep)
    (first | (go_at_call 31; refine (diffI _ _ W1.drew (unhide HO)).mono ?_; rintro x w2 ⟨rfl, hw2⟩; have hb2 : Below W1.heap.size W1 w2 := (by rw [hw2]; exact ⟨rfl, rfl, rfl, Nat.le_refl _, fun _ _ => rfl⟩); clear hw2; have p0 := (hb2.cell (p := ⟨b, o, none⟩) y1).trans c1'; have p1 := (hb2.cell (p := ⟨b, o + 1, none⟩) y1).trans c2'; have p2 := (hb2.cell (p := ⟨w.heap.size, 2, none⟩) y2).trans c4))
  have HB2 := hide (below_trans (unhide HB) hb2)
  clear p0 p1 p2 c1' c2' c4 hb2
  go_wp2_with (fail)
  go_ret2
  exact ⟨rfl, unhide HB2⟩

set_option maxHeartbeats 1000000 in
theorem valPair5 (s : ByteArray) (q : Int) (e : Ex) (ka : Option Addr) (kc : Nat) (ta : Option Addr) (tc : Nat) (uv : Value) (b o cap n : Nat) (m1 m2 : Int) (w : World) (hn : 2 ≤ n) (hn3 : n ≤ 3) (hb : b < w.heap.size) (c1 : w.cell? ⟨b, o, none⟩ = some (.int .i64 m1)) (c2 : w.cell? ⟨b, o + 1, none⟩ = some (.int .i64 m2)) (ho : okB m2 = true) :
    Calls Try.prog 76 #[.agg #[.string s, .int .i64 q, .func (.func 32) #[] #[]], exV e ka kc ta tc, uv, .slice (some ⟨b, o, none⟩) n cap] w fun x w' => x = .returned (.tuple #[.int .i64 (timesV m1 m2), .bool (fitB m1 m2)]) ∧ Below w.heap.size w w' := by
  have n1 : (0 : Int) < (n : Int) := by omega
  have n0 : 0 < n := by omega
  have n2 : (1 : Int) < (n : Int) := by omega
  have n3 : 1 < n := by omega
  have HO := hide ho
  obtain ⟨W1, hW1⟩ : ∃ W1, (w.alloc (.cells #[.string s, .int .i64 q, .func (.func 32) #[] #[]] 85)).alloc (.cells #[.int .i64 e.kind, .int .i64 e.num, .string e.meter, .slice ka e.kids.length kc, .slice ta e.tiers.length tc] 26) = W1 := ⟨_, rfl⟩
  have HW1 := hide hW1
  have hb2 : Below w.heap.size w W1 := by rw [← hW1]; exact below2 _ _ _
  have HB := hide hb2
  have c1' := (hb2.cell (p := ⟨b, o, none⟩) hb).trans c1
  have c2' := (hb2.cell (p := ⟨b, o + 1, none⟩) hb).trans c2
  have c4 : W1.cell? ⟨w.heap.size, 2, none⟩ = some (.func (.func 32) #[] #[]) := by
    rw [← hW1, (below_alloc _ _).cell (p := ⟨w.heap.size, 2, none⟩) (by simp)]
    have e1 := (MapKept.heap_alloc w (.cells #[.string s, .int .i64 q, .func (.func 32) #[] #[]] 85)).1
    simp only [World.cell?, e1]
    simp
  have y1 : b < W1.heap.size := Nat.lt_of_lt_of_le hb hb2.size
  have y2 : w.heap.size < W1.heap.size := by rw [← hW1]; simp; omega
  clear hW1 hb2 c1 c2 ho
  go_enter Try.func76, Try.ntmps76
  go_wp2_with (fail)
  rw [unhide HW1]
  go_region_held3 (fun ww => ww.cell? ⟨b, o, none⟩ = some (.int .i64 m1) ∧ ww.cell? ⟨b, o + 1, none⟩ = some (.int .i64 m2) ∧ ww.cell? ⟨w.heap.size, 2, none⟩ = some (.func (.func 32) #[] #[])) (go_keep)
    (first | (go_at_call 32; refine (Coin.timesI _ _ W1.drew).mono ?_; rintro x w2 ⟨rfl, hw2⟩; have hb2 : Below W1.heap.size W1 w2 := (by rw [hw2]; exact ⟨rfl, rfl, rfl, Nat.le_refl _, fun _ _ => rfl⟩); clear hw2; have p0 := (hb2.cell (p := ⟨b, o, none⟩) y1).trans c1'; have p1 := (hb2.cell (p := ⟨b, o + 1, none⟩) y1).trans c2'; have p2 := (hb2.cell (p := ⟨w.heap.size, 2, none⟩) y2).trans c4))
  have HB2 := hide (below_trans (unhide HB) hb2)
  clear p0 p1 p2 c1' c2' c4 hb2
  go_wp2_with (fail)
  go_ret2
  exact ⟨rfl, unhide HB2⟩

set_option maxHeartbeats 1000000 in
theorem valPair7 (s : ByteArray) (q : Int) (e : Ex) (ka : Option Addr) (kc : Nat) (ta : Option Addr) (tc : Nat) (uv : Value) (b o cap n : Nat) (m1 m2 : Int) (w : World) (hn : 2 ≤ n) (hn3 : n ≤ 3) (hb : b < w.heap.size) (c1 : w.cell? ⟨b, o, none⟩ = some (.int .i64 m1)) (c2 : w.cell? ⟨b, o + 1, none⟩ = some (.int .i64 m2)) (ho : okB m2 = true) :
    Calls Try.prog 76 #[.agg #[.string s, .int .i64 q, .func (.func 33) #[] #[]], exV e ka kc ta tc, uv, .slice (some ⟨b, o, none⟩) n cap] w fun x w' => x = .returned (.tuple #[.int .i64 (if m2 < m1 then m2 else m1), .bool (true)]) ∧ Below w.heap.size w w' := by
  have n1 : (0 : Int) < (n : Int) := by omega
  have n0 : 0 < n := by omega
  have n2 : (1 : Int) < (n : Int) := by omega
  have n3 : 1 < n := by omega
  have HO := hide ho
  generalize hV : (if m2 < m1 then m2 else m1) = V
  have HV := hide hV
  clear hV
  obtain ⟨W1, hW1⟩ : ∃ W1, (w.alloc (.cells #[.string s, .int .i64 q, .func (.func 33) #[] #[]] 85)).alloc (.cells #[.int .i64 e.kind, .int .i64 e.num, .string e.meter, .slice ka e.kids.length kc, .slice ta e.tiers.length tc] 26) = W1 := ⟨_, rfl⟩
  have HW1 := hide hW1
  have hb2 : Below w.heap.size w W1 := by rw [← hW1]; exact below2 _ _ _
  have HB := hide hb2
  have c1' := (hb2.cell (p := ⟨b, o, none⟩) hb).trans c1
  have c2' := (hb2.cell (p := ⟨b, o + 1, none⟩) hb).trans c2
  have c4 : W1.cell? ⟨w.heap.size, 2, none⟩ = some (.func (.func 33) #[] #[]) := by
    rw [← hW1, (below_alloc _ _).cell (p := ⟨w.heap.size, 2, none⟩) (by simp)]
    have e1 := (MapKept.heap_alloc w (.cells #[.string s, .int .i64 q, .func (.func 33) #[] #[]] 85)).1
    simp only [World.cell?, e1]
    simp
  have y1 : b < W1.heap.size := Nat.lt_of_lt_of_le hb hb2.size
  have y2 : w.heap.size < W1.heap.size := by rw [← hW1]; simp; omega
  clear hW1 hb2 c1 c2 ho
  go_enter Try.func76, Try.ntmps76
  go_wp2_with (fail)
  rw [unhide HW1]
  go_region_held3 (fun ww => ww.cell? ⟨b, o, none⟩ = some (.int .i64 m1) ∧ ww.cell? ⟨b, o + 1, none⟩ = some (.int .i64 m2) ∧ ww.cell? ⟨w.heap.size, 2, none⟩ = some (.func (.func 33) #[] #[])) (go_keep)
    (first | (go_at_call 33; refine (lesserV _ _ V W1.drew (unhide HV)).mono ?_; rintro x w2 ⟨rfl, hw2⟩; have hb2 : Below W1.heap.size W1 w2 := (by rw [hw2]; exact ⟨rfl, rfl, rfl, Nat.le_refl _, fun _ _ => rfl⟩); clear hw2; have p0 := (hb2.cell (p := ⟨b, o, none⟩) y1).trans c1'; have p1 := (hb2.cell (p := ⟨b, o + 1, none⟩) y1).trans c2'; have p2 := (hb2.cell (p := ⟨w.heap.size, 2, none⟩) y2).trans c4))
  have HB2 := hide (below_trans (unhide HB) hb2)
  clear p0 p1 p2 c1' c2' c4 hb2
  go_wp2_with (fail)
  go_ret2
  exact ⟨rfl, unhide HB2⟩

set_option maxHeartbeats 1000000 in
theorem valPair8 (s : ByteArray) (q : Int) (e : Ex) (ka : Option Addr) (kc : Nat) (ta : Option Addr) (tc : Nat) (uv : Value) (b o cap n : Nat) (m1 m2 : Int) (w : World) (hn : 2 ≤ n) (hn3 : n ≤ 3) (hb : b < w.heap.size) (c1 : w.cell? ⟨b, o, none⟩ = some (.int .i64 m1)) (c2 : w.cell? ⟨b, o + 1, none⟩ = some (.int .i64 m2)) (ho : okB m2 = true) :
    Calls Try.prog 76 #[.agg #[.string s, .int .i64 q, .func (.func 34) #[] #[]], exV e ka kc ta tc, uv, .slice (some ⟨b, o, none⟩) n cap] w fun x w' => x = .returned (.tuple #[.int .i64 (if m2 < m1 then m1 else m2), .bool (true)]) ∧ Below w.heap.size w w' := by
  have n1 : (0 : Int) < (n : Int) := by omega
  have n0 : 0 < n := by omega
  have n2 : (1 : Int) < (n : Int) := by omega
  have n3 : 1 < n := by omega
  have HO := hide ho
  generalize hV : (if m2 < m1 then m1 else m2) = V
  have HV := hide hV
  clear hV
  obtain ⟨W1, hW1⟩ : ∃ W1, (w.alloc (.cells #[.string s, .int .i64 q, .func (.func 34) #[] #[]] 85)).alloc (.cells #[.int .i64 e.kind, .int .i64 e.num, .string e.meter, .slice ka e.kids.length kc, .slice ta e.tiers.length tc] 26) = W1 := ⟨_, rfl⟩
  have HW1 := hide hW1
  have hb2 : Below w.heap.size w W1 := by rw [← hW1]; exact below2 _ _ _
  have HB := hide hb2
  have c1' := (hb2.cell (p := ⟨b, o, none⟩) hb).trans c1
  have c2' := (hb2.cell (p := ⟨b, o + 1, none⟩) hb).trans c2
  have c4 : W1.cell? ⟨w.heap.size, 2, none⟩ = some (.func (.func 34) #[] #[]) := by
    rw [← hW1, (below_alloc _ _).cell (p := ⟨w.heap.size, 2, none⟩) (by simp)]
    have e1 := (MapKept.heap_alloc w (.cells #[.string s, .int .i64 q, .func (.func 34) #[] #[]] 85)).1
    simp only [World.cell?, e1]
    simp
  have y1 : b < W1.heap.size := Nat.lt_of_lt_of_le hb hb2.size
  have y2 : w.heap.size < W1.heap.size := by rw [← hW1]; simp; omega
  clear hW1 hb2 c1 c2 ho
  go_enter Try.func76, Try.ntmps76
  go_wp2_with (fail)
  rw [unhide HW1]
  go_region_held3 (fun ww => ww.cell? ⟨b, o, none⟩ = some (.int .i64 m1) ∧ ww.cell? ⟨b, o + 1, none⟩ = some (.int .i64 m2) ∧ ww.cell? ⟨w.heap.size, 2, none⟩ = some (.func (.func 34) #[] #[])) (go_keep)
    (first | (go_at_call 34; refine (greaterV _ _ V W1.drew (unhide HV)).mono ?_; rintro x w2 ⟨rfl, hw2⟩; have hb2 : Below W1.heap.size W1 w2 := (by rw [hw2]; exact ⟨rfl, rfl, rfl, Nat.le_refl _, fun _ _ => rfl⟩); clear hw2; have p0 := (hb2.cell (p := ⟨b, o, none⟩) y1).trans c1'; have p1 := (hb2.cell (p := ⟨b, o + 1, none⟩) y1).trans c2'; have p2 := (hb2.cell (p := ⟨w.heap.size, 2, none⟩) y2).trans c4))
  have HB2 := hide (below_trans (unhide HB) hb2)
  clear p0 p1 p2 c1' c2' c4 hb2
  go_wp2_with (fail)
  go_ret2
  exact ⟨rfl, unhide HB2⟩

/-- what a kind's value wants -/
theorem val_len {e : Ex} {vs : List Int} (hk : 1 ≤ e.kind ∧ e.kind ≤ 10) (hn : nextM e.kind vs = none) : (e.kind = 1 ∨ e.kind = 2) ∨ ((e.kind = 6 ∨ e.kind = 10) ∧ 1 ≤ vs.length) ∨ 2 ≤ vs.length := by
  unfold nextM at hn
  by_cases h9 : e.kind = 9
  · rw [if_pos h9] at hn
    split at hn
    · cases hn
    split at hn
    · split at hn <;> cases hn
    · omega
  · rw [if_neg h9] at hn
    split at hn
    · cases hn
    · rename_i h
      rcases cases10 hk with h' | h' | h' | h' | h' | h' | h' | h' | h' | h' <;> rw [h'] at h <;> simp [kidsK] at h <;> omega

set_option maxHeartbeats 1000000 in
/-- the methods 'value' -/
theorem valI (us : List Uses.U) (hul : us.length ≤ 1048576) (e : Ex) (ka : Option Addr) (kc : Nat) (ta : Option Addr) (tc : Nat) (uv v : Value) (vs : List Int) (w : World) (hk : 1 ≤ e.kind ∧ e.kind ≤ 10) (hn : nextM e.kind vs = none) (hv : VR w v vs) (hl : vs.length ≤ 3) (hok : ∀ x ∈ vs, okB x = true) (hU : Uses.UR w uv us) (hT : TR w (.slice ta e.tiers.length tc) e.tiers) (htl : e.tiers.length ≤ 1048576) :
    Calls Try.prog (valF e.kind) #[recK e.kind, exV e ka kc ta tc, uv, v] w fun x w' => x = .returned (.tuple #[.int .i64 (valV us e vs), .bool (valB us e vs)]) ∧ Below w.heap.size w w' := by
  have hlen := val_len hk hn
  unfold valV valB
  by_cases h1 : e.kind = 1
  · rw [if_pos h1, if_pos h1, h1]
    exact valNum _ _ e ka kc ta tc uv v w
  rw [if_neg h1, if_neg h1]
  by_cases h2 : e.kind = 2
  · rw [if_pos h2, if_pos h2, h2]
    exact valMeter us hul _ _ e ka kc ta tc uv v w hU
  rw [if_neg h2, if_neg h2]
  have hl1 : 1 ≤ vs.length := by omega
  rcases hv with ⟨rfl, _⟩ | ⟨b, o, cap, rfl, hb, hc⟩
  · simp at hl1
  have c0 := hc 0 (by omega)
  rw [Nat.add_zero] at c0
  by_cases h6 : e.kind = 6
  · rw [if_pos h6, if_pos h6, h6]
    exact valPart _ _ e ka kc ta tc uv b o cap _ _ w hl1 hl hb c0
  rw [if_neg h6, if_neg h6]
  by_cases h10 : e.kind = 10
  · have h9n : ¬ e.kind = 9 := by omega
    rw [if_neg h9n, if_neg h9n, if_pos h10, if_pos h10, h10]
    exact valSteps _ _ e ka kc ta tc uv b o cap _ _ w hl1 hl hb c0 hT htl
  have hl2 : 2 ≤ vs.length := by omega
  have c1 := hc 1 (by omega)
  have ho1 : okB (vs.getD 1 0) = true := hok _ (by
    have : vs.getD 1 0 = vs[1] := by simp [List.getD, show 1 < vs.length by omega]
    rw [this]; exact List.getElem_mem _)
  by_cases h9 : e.kind = 9
  · rw [if_pos h9, if_pos h9, h9]
    exact valIf _ _ e ka kc ta tc uv b o cap _ _ w hl2 hl hb c1
  rw [if_neg h9, if_neg h9, if_neg h10, if_neg h10]
  rcases pair_cases hk h1 h2 h6 h9 h10 with h | h | h | h | h
  · rw [h]; exact valPair3 _ _ e ka kc ta tc uv b o cap _ _ _ w hl2 hl hb c0 c1 ho1
  · rw [h]; exact valPair4 _ _ e ka kc ta tc uv b o cap _ _ _ w hl2 hl hb c0 c1 ho1
  · rw [h]; exact valPair5 _ _ e ka kc ta tc uv b o cap _ _ _ w hl2 hl hb c0 c1 ho1
  · rw [h]; exact valPair7 _ _ e ka kc ta tc uv b o cap _ _ _ w hl2 hl hb c0 c1 ho1
  · rw [h]; exact valPair8 _ _ e ka kc ta tc uv b o cap _ _ _ w hl2 hl hb c0 c1 ho1
end Go.Proofs.Ytdpefmjlmpjjbaa.Rule
