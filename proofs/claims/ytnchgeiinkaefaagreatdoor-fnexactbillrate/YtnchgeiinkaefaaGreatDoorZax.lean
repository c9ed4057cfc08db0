/-
  Texts of this proof laid together, in build order; each says of itself what it holds.
-/
import Derived.Test.YtnchgeiinkaefaaGreatDoorZaw
import Derived.Lib.IndexAny
import Derived.Test.YtnchgeiinkaefaaGreatDoorZaq
import Derived.Test.YtnchgeiinkaefaaGreatDoorZah
import Derived.Test.YtnchgeiinkaefaaGreatDoorZaa
import Derived.Deep.QuietTactic
import Derived.BigQuiet
import Derived.Test.YtnchgeiinkaefaaGreatDoorZaj
import Derived.Test.YtnchgeiinkaefaaGreatDoorZam
import Derived.Deep.AppendLies
section
/-
  impl.cutWord, impl.readLeaf.
-/
namespace Go.Proofs.YtnchgeiinkaefaaGreatDoor.Rule
set_option linter.unusedVariables false
open Go.RowKit
open Tiers (T T0 TR hide unhide below_trans)
open Kinds hiding hide unhide below_trans ext_toList

theorem ends_has (b : UInt8) : ([32, 41] : List UInt8).contains b = endB b := by
  simp [endB]
  rfl
theorem indexAny_spec : ∀ l : List UInt8, (Lib.indexAny l [32, 41] = -1 → ∀ b ∈ l, endB b = false) ∧ (∀ n : Nat, Lib.indexAny l [32, 41] = n → n < l.length ∧ (∀ b ∈ l.take n, endB b = false) ∧ ∃ b u, l.drop n = b :: u ∧ endB b = true)
  | [] => ⟨fun _ b hb => by simp at hb, fun n hn => by rw [Lib.indexAny] at hn; omega⟩
  | a :: l => by
    obtain ⟨h1, h2⟩ := indexAny_spec l
    have hge := Lib.indexAny_ge [32, 41] l
    rw [Lib.indexAny, ends_has]
    cases ha : endB a
    · simp only [Bool.false_eq_true, if_false]
      by_cases hm : Lib.indexAny l [32, 41] = -1
      · simp only [hm]
        refine ⟨fun _ b hb => ?_, fun n hn => by simp at hn⟩
        rcases List.mem_cons.1 hb with rfl | hb
        · exact ha
        · exact h1 hm b hb
      · have hm' : (Lib.indexAny l [32, 41] == -1) = false := by simpa using hm
        simp only [hm', Bool.false_eq_true, if_false]
        refine ⟨fun h => by omega, fun n hn => ?_⟩
        cases n with
        | zero => simp at hn; omega
        | succ n =>
          obtain ⟨k1, k2, k3⟩ := h2 n (by omega)
          refine ⟨by simp; omega, fun b hb => ?_, by simpa using k3⟩
          rw [List.take_succ_cons] at hb
          rcases List.mem_cons.1 hb with rfl | hb
          · exact ha
          · exact k2 b hb
    · simp only [if_true]
      refine ⟨fun h => by omega, fun n hn => ?_⟩
      obtain rfl : n = 0 := by omega
      exact ⟨by simp, by simp, a, l, rfl, ha⟩

theorem zero173 : ∀ w, (zeroValue 249).run Tryz.prog w = .ok (.agg (Array.replicate 256 (.bool false))) w := fun w => by kernel_rfl

/-- strings.IndexAny of the two signs that end a word -/
theorem ixAny (s : ByteArray) (w : World) (hs : s.size ≤ 1000000) : Calls Tryz.prog 134 #[.string s, .string ends2] w fun e w' => ∃ x : Int, e = .returned (.int .i64 x) ∧ (-1 ≤ x ∧ x < s.size) ∧ (Low s.data.toList → x = Lib.indexAny s.data.toList [32, 41]) ∧ Below w.heap.size w w' := by
  have hsp := indexAny_spec s.data.toList
  have hge := Lib.indexAny_ge [32, 41] s.data.toList
  have hsz : s.data.toList.length = s.size := Array.length_toList
  have hbd : -1 ≤ Lib.indexAny s.data.toList [32, 41] ∧ Lib.indexAny s.data.toList [32, 41] < s.size := by
    refine ⟨hge, ?_⟩
    by_cases h0 : 0 ≤ Lib.indexAny s.data.toList [32, 41]
    · obtain ⟨n, hn⟩ := Int.eq_ofNat_of_zero_le h0
      have := (hsp.2 n hn).1
      omega
    · omega
  have hac : ∀ (j : Nat) b, ends2.data.toList[j]? = some b → b.toNat < 128 := fun j b hb => by
    have := List.mem_of_getElem? hb
    simp at this
    rcases this with rfl | rfl <;> decide
  have he : ends2.data.toList = [32, 41] := rfl
  by_cases h8 : s.size ≤ 8
  · by_cases hl : Low s.data.toList
    · have hC := Tryz.strings_IndexAny zero173 s ends2 w (by omega) (by decide) (fun j b hb => hl b (List.mem_of_getElem? hb)) hac
      rw [he] at hC
      refine hC.mono ?_
      rintro e w' ⟨rfl, hb⟩
      exact ⟨_, rfl, hbd, fun _ => rfl, hb⟩
    · refine (ixShort s w h8).mono ?_
      rintro e w' ⟨x, rfl, x1, x2, hb⟩
      exact ⟨x, rfl, ⟨x1, x2⟩, fun h => absurd h hl, hb⟩
  · have hC := Tryz.strings_IndexAny_long zero173 s ends2 w (by decide) (by omega) (by omega) (by decide) hac
    rw [he] at hC
    refine hC.mono ?_
    rintro e w' ⟨rfl, rfl⟩
    exact ⟨_, rfl, hbd, fun _ => rfl, below_trans (below_alloc _ _) (below_alloc _ _)⟩

theorem below_drew1 {n : Nat} {w W : World} (h : Below n w W) : Below n w W.drew := ⟨h.os, h.tape, h.output, h.size, h.block⟩
theorem extract_take (s : ByteArray) (n : Nat) : s.extract 0 n = bytesOf (s.data.toList.take n) := by
  apply ByteArray.ext
  apply Array.ext'
  simp [bytesOf, ByteArray.data_extract]
theorem extract_drop (s : ByteArray) (n : Nat) : s.extract n s.size = bytesOf (s.data.toList.drop n) := by
  apply ByteArray.ext
  apply Array.ext'
  have : s.data.toList.length = s.size := Array.length_toList
  simp only [bytesOf, ByteArray.data_extract, Array.toList_extract]
  rw [List.extract_eq_take_drop]
  exact List.take_of_length_le (by simp)

set_option maxHeartbeats 1000000 in
/-- impl.cutWord -/
theorem cutI (s : ByteArray) (w : World) (hs : s.size ≤ 1000000) : Calls Tryz.prog 117 #[.string s] w fun e w' => ∃ wd r, e = .returned (.tuple #[.string (bytesOf wd), .string (bytesOf r)]) ∧ CutW s.data.toList wd r ∧ Below w.heap.size w w' := by
  have hsz : s.data.toList.length = s.size := Array.length_toList
  go_enter Tryz.func117, Tryz.ntmps117
  go_wp2_with (fail)
  refine (ixAny s w hs).mono ?_
  rintro e w1 ⟨x, rfl, ⟨x1, x2⟩, hlow, hb⟩
  have HL := hide hlow
  have HB := hide hb
  clear hlow hb
  by_cases hx : x < 0
  · obtain rfl : x = -1 := by omega
    have b0 : (0 : Int) ≤ (s.size : Int) := by omega
    have b1 : (s.size : Int) ≤ (s.size : Int) := by omega
    go_wp2_with (fail)
    go_region
    go_wp2_with (fail)
    go_ret2
    refine ⟨s.data.toList, [], ?_, ⟨by simp, fun h => ⟨(indexAny_spec _).1 (unhide HL h).symm, .inl rfl⟩⟩, ?_⟩
    · rw [bytes_self]; rfl
    · exact below_drew1 (unhide HB)
  · obtain ⟨n, rfl⟩ := Int.eq_ofNat_of_zero_le (show 0 ≤ x by omega)
    have b0 : (0 : Int) ≤ (n : Int) := by omega
    have b1 : (n : Int) ≤ (s.size : Int) := by omega
    go_wp2_with (fail)
    go_region
    go_wp2_with (fail)
    go_ret2
    refine ⟨s.data.toList.take n, s.data.toList.drop n, ?_, ⟨by simp, fun h => ?_⟩, ?_⟩
    · rw [← extract_take, ← extract_drop]; rfl
    · obtain ⟨k1, k2, k3⟩ := (indexAny_spec s.data.toList).2 n (unhide HL h).symm
      exact ⟨k2, .inr k3⟩
    · exact below_drew1 (unhide HB)
end Go.Proofs.YtnchgeiinkaefaaGreatDoor.Rule
end

section
/-
  The methods 'own' of the kinds: the words behind the kids.
-/
namespace Go.Proofs.YtnchgeiinkaefaaGreatDoor.Rule
set_option linter.unusedVariables false
open Go.RowKit RegIn
open Tiers (T T0 TR hide unhide below_trans)
open Kinds hiding hide unhide below_trans ext_toList
open _root_.Go.Proofs.YtnchgeiinkaefaaGreatDoor.Text (Tens itoaI)

/-- a slice of words -/
def SR (W : World) (B : Nat) (v : Value) (ws : List (List UInt8)) : Prop := (ws = [] ∧ v = .slice none 0 0) ∨ (ws ≠ [] ∧ ∃ b cap, v = .slice (some ⟨b, 0, none⟩) ws.length cap ∧ ws.length ≤ cap ∧ B ≤ b ∧ b < W.heap.size ∧ ∀ j x, ws[j]? = some x → W.cell? ⟨b, j, none⟩ = some (.string (bytesOf x)))
/-- which function 'own' is -/
def ownF (k : Int) : Nat := if k = 1 then 266 else if k = 2 then 269 else if k = 6 then 274 else if k = 10 then 279 else 264
theorem mOwnPair (s : ByteArray) (n : Int) (f : Value) (w : World) : (method 453 224 (.agg #[.string s, .int .i64 n, f]) "loop.example/scot/impl.own").run Tryz.prog w = .ok (264, .agg #[.string s, .int .i64 n]) w := by kernel_rfl
theorem mOwnPart (s : ByteArray) (n : Int) (w : World) : (method 453 225 (.agg #[.string s, .int .i64 n]) "loop.example/scot/impl.own").run Tryz.prog w = .ok (274, .agg #[.string s, .int .i64 n]) w := by kernel_rfl
theorem mOwnIf (s : ByteArray) (n : Int) (w : World) : (method 453 226 (.agg #[.string s, .int .i64 n]) "loop.example/scot/impl.own").run Tryz.prog w = .ok (264, .agg #[.string s, .int .i64 n]) w := by kernel_rfl
theorem mOwnSteps (s : ByteArray) (n : Int) (w : World) : (method 453 227 (.agg #[.string s, .int .i64 n]) "loop.example/scot/impl.own").run Tryz.prog w = .ok (279, .agg #[.string s, .int .i64 n]) w := by kernel_rfl
theorem mOwnNum (s : ByteArray) (n : Int) (w : World) : (method 453 221 (.agg #[.string s, .int .i64 n]) "loop.example/scot/impl.own").run Tryz.prog w = .ok (266, .agg #[.string s, .int .i64 n]) w := by kernel_rfl
theorem mOwnMeter (s : ByteArray) (n : Int) (w : World) : (method 453 222 (.agg #[.string s, .int .i64 n]) "loop.example/scot/impl.own").run Tryz.prog w = .ok (269, .agg #[.string s, .int .i64 n]) w := by kernel_rfl
theorem mOwn {k : Int} (h : 1 ≤ k ∧ k ≤ 10) (w : World) : (method 453 (typeK k) (recK k) "loop.example/scot/impl.own").run Tryz.prog w = .ok (ownF k, lookV k) w := by
  rcases cases10 h with rfl | rfl | rfl | rfl | rfl | rfl | rfl | rfl | rfl | rfl
  · exact mOwnNum _ _ w
  · exact mOwnMeter _ _ w
  · exact mOwnPair _ _ _ w
  · exact mOwnPair _ _ _ w
  · exact mOwnPair _ _ _ w
  · exact mOwnPart _ _ w
  · exact mOwnPair _ _ _ w
  · exact mOwnPair _ _ _ w
  · exact mOwnIf _ _ w
  · exact mOwnSteps _ _ w
theorem eOwn {k : Int} (h : 1 ≤ k ∧ k ≤ 10) (args : Array Value) (w : World) : (callFunc (ownF k) args).run Tryz.prog w = .ok (.enter (ownF k) args) w := by
  rcases cases10 h with rfl | rfl | rfl | rfl | rfl | rfl | rfl | rfl | rfl | rfl
  all_goals kernel_rfl

theorem ownLook (s : ByteArray) (q k n : Int) (m : ByteArray) (kv tv : Value) (w : World) :
    Calls Tryz.prog 264 #[.agg #[.string s, .int .i64 q], .agg #[.int .i64 k, .int .i64 n, .string m, kv, tv]] w fun e w' => e = .returned (.slice none 0 0) ∧ Below w.heap.size w w' := by
  go_enter Tryz.func264, Tryz.ntmps264
  go_wp2
  go_ret
  exact ⟨rfl, by first | exact Below.refl _ _ | exact below2 _ _ _⟩

/-- a slice of one word, just made -/
theorem SR.one {W : World} {B b : Nat} {t : TypeId} {x : List UInt8} (hB : B ≤ b) (h : W.heap[b]? = some (.cells #[.string (bytesOf x)] t (0, 0))) : SR W B (.slice (some ⟨b, 0, none⟩) 1 1) [x] := by
  refine .inr ⟨by simp, b, 1, rfl, by simp, hB, ?_, fun j y hy => ?_⟩
  · refine Nat.lt_of_not_le fun hn => ?_
    have : W.heap[b]? = none := by simp; omega
    rw [this] at h; cases h
  · match j, hy with
    | 0, hy =>
      obtain rfl : x = y := by simpa using hy
      simp [World.cell?, h]

set_option maxHeartbeats 1000000 in
theorem ownNum (s : ByteArray) (q k n : Int) (m : ByteArray) (kv tv : Value) (w : World) (hn : -1000000000 ≤ n ∧ n ≤ 1000000000) (hT : Tens w) :
    Calls Tryz.prog 266 #[.agg #[.string s, .int .i64 q], .agg #[.int .i64 k, .int .i64 n, .string m, kv, tv]] w fun e w' => ∃ v, e = .returned v ∧ SR w' w.heap.size v [Lib.itoa n] ∧ Below w.heap.size w w' := by
  have HT := hide hT
  clear hT
  go_enter Tryz.func266, Tryz.ntmps266
  go_wp2_with (fail)
  refine (itoaI n _ (by omega) (by omega) ((unhide HT).kept (below2 _ _ _))).mono ?_
  rintro e w1 ⟨rfl, hb1⟩
  have HB := hide ((below2 _ _ _).trans (hb1.mono (by simp; omega)))
  clear hb1
  go_wp2_with (fail)
  go_ret
  exact ⟨_, rfl, SR.one (by have := (unhide HB).size; omega) (MapKept.heap_alloc _ _).1, below_trans (unhide HB) (below_alloc _ _)⟩

set_option maxHeartbeats 1000000 in
theorem ownPart (s : ByteArray) (q k n : Int) (m : ByteArray) (kv tv : Value) (w : World) (hn : -1000000000 ≤ n ∧ n ≤ 1000000000) (hT : Tens w) :
    Calls Tryz.prog 274 #[.agg #[.string s, .int .i64 q], .agg #[.int .i64 k, .int .i64 n, .string m, kv, tv]] w fun e w' => ∃ v, e = .returned v ∧ SR w' w.heap.size v [Lib.itoa n] ∧ Below w.heap.size w w' := by
  have HT := hide hT
  clear hT
  go_enter Tryz.func274, Tryz.ntmps274
  go_wp2_with (fail)
  refine (itoaI n _ (by omega) (by omega) ((unhide HT).kept (below2 _ _ _))).mono ?_
  rintro e w1 ⟨rfl, hb1⟩
  have HB := hide ((below2 _ _ _).trans (hb1.mono (by simp; omega)))
  clear hb1
  go_wp2_with (fail)
  go_ret
  exact ⟨_, rfl, SR.one (by have := (unhide HB).size; omega) (MapKept.heap_alloc _ _).1, below_trans (unhide HB) (below_alloc _ _)⟩

set_option maxHeartbeats 1000000 in
theorem ownMeter (s : ByteArray) (q k n : Int) (m : ByteArray) (kv tv : Value) (w : World) :
    Calls Tryz.prog 269 #[.agg #[.string s, .int .i64 q], .agg #[.int .i64 k, .int .i64 n, .string m, kv, tv]] w fun e w' => ∃ v, e = .returned v ∧ SR w' w.heap.size v [m.data.toList] ∧ Below w.heap.size w w' := by
  go_enter Tryz.func269, Tryz.ntmps269
  go_wp2_with (fail)
  go_ret
  refine ⟨_, rfl, SR.one (t := 9) (by omega) ?_, ?_⟩
  · have := (MapKept.heap_alloc ((w.alloc (.cells #[.string s, .int .i64 q] 222)).alloc (.cells #[.int .i64 k, .int .i64 n, .string m, kv, tv] 77)) (.cells #[.string m] 9)).1
    simp only [World.size_alloc] at this
    rw [bytes_self]
    exact this
  · exact below_trans (below2 _ _ _) (below_alloc _ _)
end Go.Proofs.YtnchgeiinkaefaaGreatDoor.Rule
end

section
/-
  The method 'own' of steps; all methods 'own'.
-/
namespace Go.Proofs.YtnchgeiinkaefaaGreatDoor.Rule
set_option linter.unusedVariables false
open Go.RowKit RegIn
open Tiers (T T0 TR hide unhide below_trans)
open Kinds hiding hide unhide below_trans ext_toList
open _root_.Go.Proofs.YtnchgeiinkaefaaGreatDoor.Text (Tens itoaI)

theorem new2 (w : World) (a b : Value) (t : TypeId) : (w.alloc (.cells #[a, b] t)).cell? ⟨w.heap.size, 0, none⟩ = some a ∧ (w.alloc (.cells #[a, b] t)).cell? ⟨w.heap.size, 1, none⟩ = some b := by
  have e1 := (MapKept.heap_alloc w (.cells #[a, b] t)).1
  simp only [World.cell?]
  rw [e1]; simp
theorem infoS : (Tryz.prog.info? 9).map (fun i => (i.zero, i.size, i.bytes)) = some (some (.string ByteArray.empty), 1, 16) := by kernel_rfl
/-- a row of n words under way: those that are laid -/
structure WRow (W : World) (b n : Nat) (ws : List (List UInt8)) : Prop where
  lt : b < W.heap.size
  at_ : ∀ j x, ws[j]? = some x → W.cell? ⟨b, j, none⟩ = some (.string (bytesOf x))
  any : ∀ j, j < n → ∃ v, W.cell? ⟨b, j, none⟩ = some v
  free : ∀ j, W.frozen? ⟨b, j, none⟩ = false
theorem WRow.kept {W W' : World} {b n : Nat} {ws : List (List UInt8)} (h : WRow W b n ws) (hb : Below W.heap.size W W') : WRow W' b n ws :=
  ⟨Nat.lt_of_lt_of_le h.lt hb.size, fun j x hx => (hb.cell (p := ⟨b, j, none⟩) h.lt).trans (h.at_ j x hx), fun j hj => by obtain ⟨v, hv⟩ := h.any j hj; exact ⟨v, (hb.cell (p := ⟨b, j, none⟩) h.lt).trans hv⟩, fun j => (hb.frozen (p := ⟨b, j, none⟩) h.lt).trans (h.free j)⟩
theorem WRow.set {W : World} {b n : Nat} {ws : List (List UInt8)} (h : WRow W b n ws) (hn : ws.length < n) (x : List UInt8) : WRow (W.setCell ⟨b, ws.length, none⟩ (.string (bytesOf x))) b n (ws ++ [x]) := by
  have hsame : ∀ u, (W.setCell ⟨b, ws.length, none⟩ u).cell? ⟨b, ws.length, none⟩ = some u := fun u => by
    obtain ⟨v, hv⟩ := h.any ws.length hn
    exact World.cell?_setCell_same _ _ _ hv
  have hoth : ∀ j u, j ≠ ws.length → (W.setCell ⟨b, ws.length, none⟩ u).cell? ⟨b, j, none⟩ = W.cell? ⟨b, j, none⟩ := fun j u hj => World.cell?_setCell_other _ _ _ _ (fun he => by simp only [Addr.mk.injEq, and_true, true_and] at he; omega)
  refine ⟨by simpa using h.lt, fun j y hy => ?_, fun j hj => ?_, fun j => by simpa [World.frozen?_setCell] using h.free j⟩
  · rcases Nat.lt_or_ge j ws.length with h1 | h1
    · rw [List.getElem?_append_left h1] at hy
      rw [hoth j _ (by omega)]; exact h.at_ j y hy
    · rw [List.getElem?_append_right h1] at hy
      have : j = ws.length := by
        have := (List.getElem?_eq_some_iff.1 hy).1
        simp at this; omega
      subst this
      obtain rfl : x = y := by simpa using hy
      exact hsame _
  · by_cases e : j = ws.length
    · subst e; exact ⟨_, hsame _⟩
    · rw [hoth j _ e]; exact h.any j hj
theorem WRow.made (w : World) (n : Nat) (t : TypeId) : WRow (w.alloc (.cells (madeCells #[.string ByteArray.empty] n) t)) w.heap.size n [] := by
  have e1 := (MapKept.heap_alloc w (.cells (madeCells #[.string ByteArray.empty] n) t)).1
  refine ⟨by simp, fun j x hx => by simp at hx, fun j hj => ?_, fun j => ?_⟩
  · simp only [World.cell?]
    rw [e1]
    refine ⟨(madeCells #[.string ByteArray.empty] n)[j]'(by rw [size_madeCells]; exact hj), ?_⟩
    simp [size_madeCells, hj]
  · simp only [World.frozen?]
    rw [e1]; simp

set_option maxHeartbeats 1000000 in
set_option maxRecDepth 20000 in
theorem ownSteps (s : ByteArray) (q k n : Int) (m : ByteArray) (kv : Value) (lo hi : Nat) (ta : Option Addr) (tc : Nat) (ts : List T) (w : World) (h0 : 1 ≤ ts.length) (h6 : ts.length ≤ 6) (hn : ∀ t ∈ ts, numOk t.1 ∧ numOk t.2) (hT : TL lo hi w (.slice ta ts.length tc) ts) (hhi : hi ≤ w.heap.size) (hTT : Tens w) :
    Calls Tryz.prog 279 #[.agg #[.string s, .int .i64 q], .agg #[.int .i64 k, .int .i64 n, .string m, kv, .slice ta ts.length tc]] w fun e w' => ∃ v, e = .returned v ∧ SR w' w.heap.size v (ts.map tierW2) ∧ Below w.heap.size w w' := by
  rcases hT with ⟨h, _⟩ | ⟨tb, tof, tcap, hta, hb1, hb2, htc⟩
  · rw [h] at h0; simp at h0
  simp only [Value.slice.injEq, true_and] at hta
  obtain ⟨rfl, rfl⟩ := hta
  have hmk := run_make_row' (P := Tryz.prog) 158 9 (.string ByteArray.empty) 16 Tryz.underlying158 infoS rfl .i64 .i64 ts.length (by omega) (by omega)
  have HTC := hide htc
  have HTT := hide hTT
  have HN := hide hn
  have hw2 := WRow.made ((w.alloc (.cells #[.string s, .int .i64 q] 227)).alloc (.cells #[.int .i64 k, .int .i64 n, .string m, kv, .slice (some ⟨tb, tof, none⟩) ts.length tc] 77)) ts.length 9
  have B0 : Hid (Below w.heap.size w (((w.alloc (.cells #[.string s, .int .i64 q] 227)).alloc (.cells #[.int .i64 k, .int .i64 n, .string m, kv, .slice (some ⟨tb, tof, none⟩) ts.length tc] 77)).alloc (.cells (madeCells #[.string ByteArray.empty] ts.length) 9))) := hide (below_trans (below2 _ _ _) (below_alloc _ _))
  simp only [World.size_alloc] at hw2
  have W2 := hide hw2
  clear htc hTT hn hw2
  go_enter Tryz.func279, Tryz.ntmps279
  go_wp2_with (fail)
  clear hmk
  go_loopw [15] (fun i wr => ∃ j : Nat, j ≤ ts.length ∧ i = .int .i64 j ∧ Hid (WRow wr (w.heap.size + 1 + 1) ts.length ((ts.take j).map tierW2)) ∧ Hid (Below w.heap.size w wr)) (fun i _ => ts.length - (intOf i).toNat)
  case atStart => exact ⟨0, by omega, rfl, W2, B0⟩
  case round =>
    obtain ⟨j, hj, rfl, hr, hb⟩ := hrel
    by_cases hlt : j < ts.length
    · obtain ⟨d0', d1'⟩ := unhide HTC j hlt
      have hbw : tb < w.heap.size := by omega
      have d0 := ((unhide hb).cell (p := ⟨tb, tof + j * 2, none⟩) hbw).trans d0'
      have d1 := ((unhide hb).cell (p := ⟨tb, tof + j * 2 + 1, none⟩) hbw).trans d1'
      have hnn := unhide HN (ts.getD j T0) (by simp [List.getD, hlt])
      have hte : ts.take (j + 1) = ts.take j ++ [ts.getD j T0] := by rw [List.take_add_one, List.getElem?_eq_getElem hlt]; simp [List.getD, hlt]
      have HTE : Hid ((ts.take (j + 1)).map tierW2 = (ts.take j).map tierW2 ++ [tierW2 (ts.getD j T0)]) := hide (by rw [hte]; simp)
      have hlen : ((ts.take j).map tierW2).length = j := by simp; omega
      clear d0' d1' hte
      generalize ts.getD j T0 = tt at *
      obtain ⟨p1, p2⟩ := tt
      obtain ⟨⟨n1, n2⟩, n3, n4⟩ := hnn
      simp only at d0 d1 n1 n2 n3 n4
      have i1 : (j : Int) < (ts.length : Int) := by omega
      have n5 := new2 wr (.int .i64 p1) (.int .i64 p2) 184
      obtain ⟨W5, hW5⟩ : ∃ W5, wr.alloc (.cells #[.int .i64 p1, .int .i64 p2] 184) = W5 := ⟨_, rfl⟩
      have B5 : Hid (Below wr.heap.size wr W5) := hide (by rw [← hW5]; exact below_alloc _ _)
      have hs5 : W5.heap.size = wr.heap.size + 1 := by rw [← hW5]; simp
      rw [hW5] at n5
      have HW5 := hide hW5
      obtain ⟨g0, g1⟩ := n5
      have HT5 : Hid (Tens W5) := hide (((unhide HTT).kept (unhide hb)).kept (unhide B5))
      have hg5 : wr.heap.size < W5.heap.size := by omega
      have HT5d : Hid (Tens W5.drew) := hide (show Tens W5.drew from unhide HT5)
      have sz1 : (Lib.itoa p1).length ≤ 11 := itoa_short ⟨n1, n2⟩
      have sz2 : (Lib.itoa p2).length ≤ 11 := itoa_short ⟨n3, n4⟩
      have HX1 : Hid (tierW2 (p1, p2) = Lib.itoa p1 ++ 58 :: Lib.itoa p2) := hide rfl
      have HC1 : Hid (∀ W : World, Tens W → Calls Tryz.prog 209 #[.int .i64 p1] W fun e w' => e = .returned (.string ⟨(Lib.itoa p1).toArray⟩) ∧ Below W.heap.size W w') := hide (fun W hW => itoaI p1 W (by omega) (by omega) hW)
      have HC2 : Hid (∀ W : World, Tens W → Calls Tryz.prog 209 #[.int .i64 p2] W fun e w' => e = .returned (.string ⟨(Lib.itoa p2).toArray⟩) ∧ Below W.heap.size W w') := hide (fun W hW => itoaI p2 W (by omega) (by omega) hW)
      generalize Lib.itoa p1 = I1 at *
      generalize Lib.itoa p2 = I2 at *
      have b1 : ¬ 9223372036854775807 ≤ I1.length := by omega
      have b1' : ¬ 9223372036854775807 < I1.length + 1 := by omega
      have b2 : ¬ 9223372036854775807 < I1.length + 1 + I2.length := by omega
      have hwr := (unhide hr).lt
      have ne1 : ¬ w.heap.size + 1 + 1 = wr.heap.size := by omega
      have ne2 : ¬ wr.heap.size = w.heap.size + 1 + 1 := by omega
      clear hW5
      go_wp2_with (fail)
      rw [unhide HW5]
      go_region_held3 (fun w2 => w2.cell? ⟨wr.heap.size, 0, none⟩ = some (.int .i64 p1) ∧ w2.cell? ⟨wr.heap.size, 1, none⟩ = some (.int .i64 p2)) (go_keep)
        (first | (refine (unhide HC1 W5.drew (unhide HT5d)).mono ?_; rintro x w6 ⟨rfl, hb6⟩; have hB6 : Below W5.heap.size W5 w6 := ⟨hb6.os, hb6.tape, hb6.output, hb6.size, hb6.block⟩; clear hb6; have q0 := (hB6.cell (p := ⟨wr.heap.size, 0, none⟩) hg5).trans g0; have q1 := (hB6.cell (p := ⟨wr.heap.size, 1, none⟩) hg5).trans g1) | (refine (unhide HC2 _ ((unhide HT5).kept hB6)).mono ?_; rintro x w7 ⟨rfl, hb7⟩; have hB7 : Below W5.heap.size W5 w7 := below_trans hB6 hb7; clear hb7; have r0 := (hB7.cell (p := ⟨wr.heap.size, 0, none⟩) hg5).trans g0; have r1 := (hB7.cell (p := ⟨wr.heap.size, 1, none⟩) hg5).trans g1; have hR7 := ((unhide hr).kept (unhide B5)).kept hB7; obtain ⟨c7, hc7⟩ := hR7.any j (by omega); have f7 := hR7.free j))
      have HR : Hid (WRow (w7.setCell ⟨w.heap.size + 1 + 1, j, none⟩ (.string (⟨I1.toArray⟩ ++ ⟨#[58]⟩ ++ ⟨I2.toArray⟩))) (w.heap.size + 1 + 1) ts.length ((ts.take (j + 1)).map tierW2)) := hide (by
        have := hR7.set (by omega) (tierW2 (p1, p2))
        rw [hlen, ← unhide HTE] at this
        have e : bytesOf (tierW2 (p1, p2)) = (⟨I1.toArray⟩ ++ ⟨#[58]⟩ ++ ⟨I2.toArray⟩ : ByteArray) := by rw [unhide HX1]; apply ByteArray.ext; simp [bytesOf]
        rw [e] at this
        exact this)
      have HB : Hid (Below w.heap.size w (w7.setCell ⟨w.heap.size + 1 + 1, j, none⟩ (.string (⟨I1.toArray⟩ ++ ⟨#[58]⟩ ++ ⟨I2.toArray⟩)))) := hide (by
        have := below_trans (below_trans (unhide hb) (unhide B5)) hB7
        exact this.setCell (by show w.heap.size ≤ w.heap.size + 1 + 1; omega) _)
      clear hc7 f7 hR7 hB7 hB6 q0 q1 r0 r1
      go_wp2_with (fail)
      exact ⟨⟨j + 1, by omega, by go_num, HR, HB⟩, by simp [intOf]; omega⟩
    · obtain rfl : j = ts.length := by omega
      go_wp2_with (fail)
      go_ret
      have hR := unhide hr
      rw [List.take_length] at hR
      refine ⟨_, rfl, .inr ⟨by simp; intro e; rw [e] at h0; simp at h0, w.heap.size + 1 + 1, ts.length, by simp, by simp, by omega, hR.lt, hR.at_⟩, unhide hb⟩

/-- the methods 'own' -/
theorem ownI {k : Int} (h : 1 ≤ k ∧ k ≤ 10) (n : Int) (m : ByteArray) (kv : Value) (lo hi : Nat) (ta : Option Addr) (nk tc : Nat) (ts : List T) (w : World) (hN : nodeB k n m nk ts = true) (hT : TL lo hi w (.slice ta ts.length tc) ts) (hhi : hi ≤ w.heap.size) (hTT : Tens w) :
    Calls Tryz.prog (ownF k) #[lookV k, .agg #[.int .i64 k, .int .i64 n, .string m, kv, .slice ta ts.length tc]] w fun e w' => ∃ v, e = .returned v ∧ SR w' w.heap.size v (ownW k n m ts) ∧ Below w.heap.size w w' := by
  have hpair : ∀ k : Int, ownW k n m ts = [] → Calls Tryz.prog 264 #[lookV k, .agg #[.int .i64 k, .int .i64 n, .string m, kv, .slice ta ts.length tc]] w fun e w' => ∃ v, e = .returned v ∧ SR w' w.heap.size v (ownW k n m ts) ∧ Below w.heap.size w w' := fun k hk => by
    refine (ownLook _ _ _ n m kv _ w).mono ?_
    rintro e w' ⟨rfl, hb⟩
    exact ⟨_, rfl, .inl ⟨hk, rfl⟩, hb⟩
  rcases cases10 h with rfl | rfl | rfl | rfl | rfl | rfl | rfl | rfl | rfl | rfl
  · exact ownNum _ _ _ n m kv _ w (by have := (node_num hN).2.1; unfold numOk at this; omega) hTT
  · exact ownMeter _ _ _ n m kv _ w
  · exact hpair 3 (by simp [ownW])
  · exact hpair 4 (by simp [ownW])
  · exact hpair 5 (by simp [ownW])
  · exact ownPart _ _ _ n m kv _ w (by have := (node_more hN (by omega) (by omega)).2.2.2.2.2.1; unfold numOk at this; omega) hTT
  · exact hpair 7 (by simp [ownW])
  · exact hpair 8 (by simp [ownW])
  · exact hpair 9 (by simp [ownW])
  · obtain ⟨t1, t2, t3⟩ := tier_ok ((node_more hN (by omega) (by omega)).2.2.2.2.2.2.2.1 rfl)
    exact ownSteps _ _ _ n m kv lo hi ta tc ts w t2 t1 t3 hT hhi hTT
end Go.Proofs.YtnchgeiinkaefaaGreatDoor.Rule
end

section
/-
  impl.readLeaf, impl.readOwn.
-/
namespace Go.Proofs.YtnchgeiinkaefaaGreatDoor.Rule
set_option linter.unusedVariables false
open Go.RowKit
open Tiers (T T0 TR hide unhide below_trans)
open Kinds hiding hide unhide below_trans ext_toList

/-- what of the library's variables the reader reads -/
def EnvR (w : World) : Prop := Text.Env w ∧ Lib.TabIs Tryz.prog w "strings.asciiSpace" .u8 Lib.asciiSpaceTab ∧ Lib.WhiteTab 2 w
theorem white_kept {g : Nat} {w w' : World} (h : Lib.WhiteTab g w) (hb : Below w.heap.size w w') : Lib.WhiteTab g w' := by
  obtain ⟨T, oT, R, oR, h1, h2, h3, h4, h5⟩ := h
  have k : ∀ {b o : Nat} {v : Value}, w.cell? ⟨b, o, none⟩ = some v → w'.cell? ⟨b, o, none⟩ = some v := fun {b o v} h => (hb.cell (p := ⟨b, o, none⟩) (lt_of_cell h)).trans h
  exact ⟨T, oT, R, oR, k h1, k h2, k h3, k h4, fun i hi => k (h5 i hi)⟩
theorem EnvR.kept {w w' : World} (h : EnvR w) (hb : Below w.heap.size w w') : EnvR w' := ⟨h.1.kept hb, Text.var_kept h.2.1 hb, white_kept h.2.2 hb⟩

/-- strconv.Atoi -/
theorem atoiC (s : ByteArray) (w : World) (hs : s.size ≤ 1000000) (he : Text.Env w) : Calls Tryz.prog 135 #[.string s] w fun e w' => ∃ (n : Int) (er : Value), e = .returned (.tuple #[.int .i64 n, er]) ∧ ((Lib.atoiAll s.data.toList = .ok n ∧ er = .nilIface) ∨ ((∀ k, Lib.atoiAll s.data.toList ≠ .ok k) ∧ ∃ N, er = .iface 278 (.pointer (some ⟨N, 0, none⟩)))) ∧ Below w.heap.size w w' := by
  cases hA : Lib.atoiAll s.data.toList
  · next v =>
    refine (Tryz.strconv_Atoi_ok s (by omega) v hA _).mono ?_
    rintro e w2 ⟨rfl, hw2⟩
    refine ⟨v, _, rfl, .inl ⟨rfl, rfl⟩, ?_⟩
    rcases hw2 with rfl | ⟨t, rfl⟩
    · exact Below.refl _ _
    · exact Lib.bytesWorld_below _ _ _
  · obtain ⟨tp, p, hv⟩ := he.2.2.1
    refine (Tryz.strconv_Atoi_syntax_var s (by omega) hA tp p _ hv).mono ?_
    rintro e w2 ⟨N, rfl, hN, hcells, hb2⟩
    exact ⟨_, _, rfl, .inr ⟨fun k => by simp, N, rfl⟩, hb2⟩
  · obtain ⟨tp, p, hv⟩ := he.2.2.2
    refine (Tryz.strconv_Atoi_range_var s (by omega) hA tp p _ hv).mono ?_
    rintro e w2 ⟨N, rfl, hN, hcells, hb2⟩
    exact ⟨_, _, rfl, .inr ⟨fun k => by simp, N, rfl⟩, hb2⟩

/-- the value of an expression with no lists -/
abbrev leafV (e : Ex) : Value := .agg #[.int .i64 e.kind, .int .i64 e.num, .string e.meter, .slice none 0 0, .slice none 0 0]

/-- five cells of a box set anew -/
theorem at_put5 {W : World} {b : Nat} {a0 a1 a2 a3 a4 : Value} (h : Boxes.At W b [a0, a1, a2, a3, a4]) (v0 v1 v2 v3 v4 : Value) :
    Boxes.At (((((W.setCell ⟨b, 0, none⟩ v0).setCell ⟨b, 1, none⟩ v1).setCell ⟨b, 2, none⟩ v2).setCell ⟨b, 3, none⟩ v3).setCell ⟨b, 4, none⟩ v4) b [v0, v1, v2, v3, v4] :=
  ((((h.set 0 v0).set 1 v1).set 2 v2).set 3 v3).set 4 v4
theorem below_put5 {B : Nat} {w W : World} {b : Nat} (h : Below B w W) (hB : B ≤ b) (v0 v1 v2 v3 v4 : Value) :
    Below B w (((((W.setCell ⟨b, 0, none⟩ v0).setCell ⟨b, 1, none⟩ v1).setCell ⟨b, 2, none⟩ v2).setCell ⟨b, 3, none⟩ v3).setCell ⟨b, 4, none⟩ v4) :=
  ((((h.setCell (p := ⟨b, 0, none⟩) hB v0).setCell (p := ⟨b, 1, none⟩) hB v1).setCell (p := ⟨b, 2, none⟩) hB v2).setCell (p := ⟨b, 3, none⟩) hB v3).setCell (p := ⟨b, 4, none⟩) hB v4

set_option maxHeartbeats 1000000 in
/-- impl.readLeaf -/
theorem leafI (wd : List UInt8) (w : World) (hs : wd.length ≤ 1000000) (he : Text.Env w) : Calls Tryz.prog 118 #[.string (bytesOf wd)] w fun x w' => ∃ e, x = .returned (leafV e) ∧ LeafI wd e ∧ (e.kids = [] ∧ e.tiers = [] ∧ e.meter.size ≤ 1000000) ∧ Below w.heap.size w w' := by
  have hl : (bytesOf wd).size = wd.length := bsize wd
  have hd : (bytesOf wd).data.toList = wd := by simp [bytesOf]
  go_enter Tryz.func118, Tryz.ntmps118
  go_wp2_with (fail)
  refine (atoiC (bytesOf wd) _ (by omega) (he.kept (below_alloc _ _))).mono ?_
  rintro x w1 ⟨n, er, rfl, h, hb⟩
  rw [hd] at h
  obtain ⟨q1, hB, hz1⟩ := Boxes.box1 hb
  have HB := hide hB
  obtain ⟨c0, f0⟩ := q1 0 _ rfl
  obtain ⟨c1, f1⟩ := q1 1 _ rfl
  obtain ⟨c2, f2⟩ := q1 2 _ rfl
  obtain ⟨c3, f3⟩ := q1 3 _ rfl
  obtain ⟨c4, f4⟩ := q1 4 _ rfl
  have Q1 := hide q1
  clear hb hB q1
  rcases h with ⟨hA, rfl⟩ | ⟨hA, N, rfl⟩
  · have HA := hide hA
    clear hA
    go_wp2_with (fail)
    have hA5 := at_put5 (unhide Q1) (.int .i64 1) (.int .i64 n) (.string (⟨#[]⟩)) (.slice none 0 0) (.slice none 0 0)
    obtain ⟨r0, _⟩ := hA5 0 _ rfl
    obtain ⟨r1, _⟩ := hA5 1 _ rfl
    obtain ⟨r2, _⟩ := hA5 2 _ rfl
    obtain ⟨r3, _⟩ := hA5 3 _ rfl
    obtain ⟨r4, _⟩ := hA5 4 _ rfl
    exact bodyPost_ret (v := leafV (.mk 1 n (⟨#[]⟩) [] [])) (by simp [results, Tryz.results118, go_sem, r0, r1, r2, r3, r4, Ex.kind, Ex.num, Ex.meter]) rfl ⟨_, rfl, .inl ⟨n, unhide HA, rfl⟩, ⟨rfl, rfl, by first | (show (bytesOf wd).size ≤ _; omega) | (show (⟨#[]⟩ : ByteArray).size ≤ 1000000; decide)⟩, below_put5 (unhide HB) (Nat.le_refl _) _ _ _ _ _⟩
  · have HA := hide hA
    clear hA
    go_wp2_with (fail)
    have hA5 := at_put5 (unhide Q1) (.int .i64 2) (.int .i64 0) (.string (bytesOf wd)) (.slice none 0 0) (.slice none 0 0)
    obtain ⟨r0, _⟩ := hA5 0 _ rfl
    obtain ⟨r1, _⟩ := hA5 1 _ rfl
    obtain ⟨r2, _⟩ := hA5 2 _ rfl
    obtain ⟨r3, _⟩ := hA5 3 _ rfl
    obtain ⟨r4, _⟩ := hA5 4 _ rfl
    exact bodyPost_ret (v := leafV (.mk 2 0 (bytesOf wd) [] [])) (by simp [results, Tryz.results118, go_sem, r0, r1, r2, r3, r4, Ex.kind, Ex.num, Ex.meter]) rfl ⟨_, rfl, .inr ⟨unhide HA, rfl⟩, ⟨rfl, rfl, by first | (show (bytesOf wd).size ≤ _; omega) | (show (⟨#[]⟩ : ByteArray).size ≤ 1000000; decide)⟩, below_put5 (unhide HB) (Nat.le_refl _) _ _ _ _ _⟩
end Go.Proofs.YtnchgeiinkaefaaGreatDoor.Rule
end

section
/-
  impl.readOwn.
-/
namespace Go.Proofs.YtnchgeiinkaefaaGreatDoor.Rule
set_option linter.unusedVariables false
open Go.RowKit
open Tiers (T T0 TR hide unhide below_trans)
open Kinds hiding hide unhide below_trans ext_toList

abbrev cells2 (t : T) : List Value := [.int .i64 t.1, .int .i64 t.2]
def flatT (l : List T) : List Value := l.flatMap cells2
theorem flatT_get : ∀ (l : List T) (i : Nat) (x : T), l[i]? = some x → ∀ j u, j < 2 → (cells2 x)[j]? = some u → (flatT l)[i * 2 + j]? = some u
  | [], i, x, h, _, _, _, _ => by simp at h
  | y :: l, 0, x, h, j, u, hj, hu => by
    simp at h; subst h
    have e : flatT (y :: l) = cells2 y ++ flatT l := rfl
    rw [e, Nat.zero_mul, Nat.zero_add, List.getElem?_append_left (by show j < 2; omega)]
    exact hu
  | y :: l, i + 1, x, h, j, u, hj, hu => by
    simp only [List.getElem?_cons_succ] at h
    have e : flatT (y :: l) = cells2 y ++ flatT l := rfl
    rw [e, List.getElem?_append_right (by show 2 ≤ _; omega)]
    have e3 : (i + 1) * 2 + j - (cells2 y).length = i * 2 + j := by show (i + 1) * 2 + j - 2 = _; omega
    rw [e3]
    exact flatT_get l i x h j u hj hu
/-- steps in a row of the call's own -/
def TO (W : World) (B : Nat) (v : Value) (l : List T) : Prop := W.ownsRow B 184 2 v l.length (flatT l)
theorem TO.nil (W : World) (B : Nat) : TO W B (.slice none 0 0) [] := ⟨rfl, .inl ⟨rfl, rfl⟩⟩
theorem TO.blk {W : World} {B : Nat} {v : Value} {l : List T} (h : TO W B v l) : ∀ q, v.ownBlock = some q → B ≤ q ∧ q < W.heap.size := World.ownsRow.lt h
theorem TO.kept {W W' : World} {B : Nat} {v : Value} {l : List T} {r : Option Nat} (h : TO W B v l) (hg : W.grownBy W' r) (hr : ∀ q, r = some q → q < B) : TO W' B v l :=
  World.ownsRow.kept (row := r) h hg (by
    cases h1 : v.ownBlock with
    | none => exact .inl rfl
    | some q => exact .inr (fun e => by have := (h.blk q h1).1; have := hr q e.symm; omega))
theorem TO.form {W : World} {B : Nat} {v : Value} {l : List T} (h : TO W B v l) : ∃ a c, v = .slice a l.length c := by
  obtain ⟨h1, h2⟩ := h
  rcases h2 with ⟨rfl, h0⟩ | ⟨g, cap, cur, rfl, _⟩
  · exact ⟨none, 0, by rw [h0]⟩
  · exact ⟨_, _, rfl⟩
theorem TO.ot {W : World} {B : Nat} {v : Value} {l : List T} (h : TO W B v l) (hB : B ≤ W.heap.size) : OT B W.heap.size W v l := by
  have ho := h
  have hb := h.blk
  obtain ⟨h1, h2⟩ := h
  refine ⟨hB, ?_⟩
  rcases h2 with ⟨rfl, h0⟩ | ⟨g, cap, cur, rfl, hBg, hg, _⟩
  · obtain rfl := List.length_eq_zero_iff.1 h0
    exact .inl ⟨rfl, _, _, rfl⟩
  · refine .inr ⟨g, cap, rfl, hBg, (hb g rfl).2, fun i hi => ?_, fun j => ?_⟩
    · have hx : l[i]? = some l[i] := List.getElem?_eq_getElem hi
      have e : l.getD i T0 = l[i] := by simp [List.getD, hi]
      rw [e]
      have hc : ∀ j u, j < 2 → (cells2 l[i])[j]? = some u → W.cell? ⟨g, i * 2 + j, none⟩ = some u := fun j u hj hu => by
        have := World.ownsRow.cells ho rfl (i * 2 + j) u (flatT_get l i _ hx j u hj hu)
        rw [Addr.add_lit, Nat.zero_add] at this
        exact this
      exact ⟨hc 0 _ (by omega) rfl, hc 1 _ (by omega) rfl⟩
    · simp only [World.frozen?]
      rw [hg]; simp
theorem infoT' : (Tryz.prog.info? 184).map (fun i => (i.zero, i.size, i.bytes)) = some (some (.agg #[.int .i64 0, .int .i64 0]), 2, 16) := by kernel_rfl

/-- what lies below B, the block eb aside, is as it was -/
structure KeepB (eb B : Nat) (w w' : World) : Prop where
  os : w'.os = w.os
  tape : w'.tape = w.tape
  output : w'.output = w.output
  size : w.heap.size ≤ w'.heap.size
  block : ∀ j, j < B → j < w.heap.size → j ≠ eb → w'.heap[j]? = w.heap[j]?
theorem KeepB.refl (eb B : Nat) (w : World) : KeepB eb B w w := ⟨rfl, rfl, rfl, Nat.le_refl _, fun _ _ _ _ => rfl⟩
theorem KeepB.trans {eb B : Nat} {a b c : World} (h : KeepB eb B a b) (k : KeepB eb B b c) : KeepB eb B a c :=
  ⟨k.os.trans h.os, k.tape.trans h.tape, k.output.trans h.output, Nat.le_trans h.size k.size, fun j h1 h2 h3 => (k.block j h1 (Nat.lt_of_lt_of_le h2 h.size) h3).trans (h.block j h1 h2 h3)⟩
theorem KeepB.below {eb B : Nat} {a b : World} (h : Below a.heap.size a b) : KeepB eb B a b := ⟨h.os, h.tape, h.output, h.size, fun j _ h2 _ => h.block j h2⟩
theorem KeepB.set {eb B : Nat} (w : World) (k : Nat) (u : Value) : KeepB eb B w (w.setCell ⟨eb, k, none⟩ u) := ⟨rfl, rfl, rfl, by simp, fun j _ _ h3 => Below.heap_setCell w ⟨eb, k, none⟩ u j (by simpa using h3)⟩
theorem KeepB.grown {eb B : Nat} {a b : World} {r : Option Nat} (h : a.grownBy b r) (hr : ∀ q, r = some q → B ≤ q) : KeepB eb B a b := ⟨h.os, h.tape, h.output, h.size, fun j h1 h2 _ => h.block j h2 (fun e => by have := hr j e.symm; omega)⟩

section
variable {ops : Array Oper} {o : Oper} {a : Act} {K : Act → World → Prop} {Q : Exit → Act → World → Prop} {E : Prop}
theorem listAppT (w : World) {rest : List Oper} (hgd : o.guard = none) (s x : Operand) (ho : o.op = .call { callee := .builtin .append, args := #[s, x], argTypes := #[75, 75] })
    (B N n : Nat) (v : Value) (l : List T) (q : T) (hn : l.length = n) (hs : a.eval s = v) (hv : TO w B v l) (hx : a.eval x = .slice (some ⟨N, 0, none⟩) 1 1) (hN : w.heap[N]? = some (.cells (cells2 q).toArray 184 (0, 0))) (hl : l.length ≤ 1000000) (hB : B ≤ w.heap.size)
    (h : ∀ g c w', TO w' B (.slice (some ⟨g, 0, none⟩) (n + 1) c) (l ++ [q]) → w.grownBy w' v.ownBlock → wpList Tryz.prog ops Q rest (a.put o.dst (.slice (some ⟨g, 0, none⟩) (n + 1) c)) w') :
    wpList Tryz.prog ops Q (o :: rest) a w := by
  subst hn
  obtain ⟨i, hi, h2⟩ := Option.map_eq_some_iff.1 infoT'
  simp only [Prod.mk.injEq] at h2
  refine wpList_append_lies (P := Tryz.prog) w hgd s x 75 ho B 184 i _ 2 16 Tryz.underlying75 hi h2.1 h2.2.1 h2.2.2 rfl (by omega) v l.length (flatT l) hs hv ⟨N, 0, none⟩ 1 1 (cells2 q) hx rfl (World.news_of_block hN) (fun u hu => by simp only [cells2, List.mem_cons, List.not_mem_nil, or_false] at hu; rcases hu with rfl | rfl <;> rfl) (by omega) (by unfold maxLen; omega) (by omega) hB _ rfl ?_
  intro g c w' h1 h3 _ _
  refine h g c w' ?_ h3
  have e : flatT (l ++ [q]) = flatT l ++ cells2 q := by simp [flatT]
  unfold TO
  rw [e, List.length_append]
  exact h1
end

set_option maxRecDepth 20000 in
set_option maxHeartbeats 1000000 in
/-- impl.readOwn -/
theorem ownWI (eb B : Nat) (wd : List UInt8) (k n : Int) (m : ByteArray) (kv tv : Value) (ts : List T) (w : World) (hs : wd.length ≤ 1000000) (he : Text.Env w) (hbx : Boxes.At w eb [.int .i64 k, .int .i64 n, .string m, kv, tv]) (hT : TO w B tv ts) (hl : ts.length ≤ 1000000) (heB : eb < B) (hB : B ≤ w.heap.size) :
    Calls Tryz.prog 123 #[.pointer (some ⟨eb, 0, none⟩), .string (bytesOf wd)] w fun x w' => x = .returned (.tuple #[]) ∧ ∃ n' tv' ts', OwnI wd n ts n' ts' ∧ Boxes.At w' eb [.int .i64 k, .int .i64 n', .string m, kv, tv'] ∧ TO w' B tv' ts' ∧ KeepB eb B w w' := by
  have hl' : (bytesOf wd).size = wd.length := bsize wd
  have hd : (bytesOf wd).data.toList = wd := by simp [bytesOf]
  obtain ⟨mx, hmx⟩ := he.2.1
  have hcut := Tryz.strings_Cut (bytesOf wd) ⟨#[58]⟩ mx w (by omega) hmx
  rw [hd] at hcut
  have e58 : (⟨#[58]⟩ : ByteArray).data.toList = [58] := rfl
  rw [e58] at hcut
  have hlen := cut_len2 58 wd
  have HO : Hid (∀ n' ts', (((Lib.cut wd [58]).2.2 = false ∧ valI (Lib.cut wd [58]).1 n' ∧ ts' = ts) ∨ ((Lib.cut wd [58]).2.2 = true ∧ n' = n ∧ ∃ a b, valI (Lib.cut wd [58]).1 a ∧ valI (Lib.cut wd [58]).2.1 b ∧ ts' = ts ++ [(a, b)])) → OwnI wd n ts n' ts') := hide (fun n' ts' h => h)
  generalize (Lib.cut wd [58]).1 = W1 at *
  generalize (Lib.cut wd [58]).2.1 = W2 at *
  generalize (Lib.cut wd [58]).2.2 = fnd at *
  have HC := hide hcut
  have HE := hide he
  have HBX := hide hbx
  have HT := hide hT
  have hebw : eb < w.heap.size := by omega
  obtain ⟨ta, tc, htf⟩ := hT.form
  clear hcut he hbx hT e58 hmx
  go_enter Tryz.func123, Tryz.ntmps123
  go_wp2_with (fail)
  refine (unhide HC).mono ?_
  rintro x w1 ⟨rfl, nd, rfl⟩
  have B1 : Hid (Below w.heap.size w (w.drewN nd)) := hide (Text.below_drew nd)
  generalize w.drewN nd = w1 at *
  go_wp2_with (fail)
  refine (atoiC ⟨W1.toArray⟩ w1 (by simp [ByteArray.size]; omega) ((unhide HE).kept (unhide B1))).mono ?_
  rintro x w2 ⟨a1, er, rfl, hA1, hb2⟩
  have HV1 : Hid (valI W1 a1) := hide (fun k' hk' => by
    rcases hA1 with ⟨h, _⟩ | ⟨h, _⟩
    · have h' : Lib.atoiAll W1 = .ok a1 := by simpa using h
      rw [h'] at hk'; cases hk'; rfl
    · exact absurd hk' (by simpa using h k'))
  have B2 := hide (below_trans (unhide B1) hb2)
  clear hA1 hb2
  cases fnd
  · have hb := (unhide HBX).below (unhide B2) hebw
    obtain ⟨c1, f1⟩ := hb 1 _ rfl
    have HB2 := hide hb
    clear hb
    go_wp2_with (fail)
    refine bodyPost_ret (v := .tuple #[]) (by simp [results, Tryz.results123, go_sem]) rfl ?_
    exact ⟨rfl, a1, tv, ts, unhide HO _ _ (.inl ⟨by trivial, unhide HV1, rfl⟩), (unhide HB2).set 1 _, ((unhide HT).kept (r := none) ⟨(unhide B2).os, (unhide B2).tape, (unhide B2).output, (unhide B2).size, fun j hj _ => (unhide B2).block j hj⟩ (fun q hq => by cases hq)).kept (r := some eb) (Evs.growS _ _ _ _) (fun q hq => by cases hq; omega), (KeepB.below (unhide B2)).trans (KeepB.set _ _ _)⟩
  · go_wp2_with (fail)
    refine (atoiC ⟨W2.toArray⟩ w2 (by simp [ByteArray.size]; omega) ((unhide HE).kept (unhide B2))).mono ?_
    rintro x w3 ⟨a2, er2, rfl, hA2, hb3⟩
    have HV2 : Hid (valI W2 a2) := hide (fun k' hk' => by
      rcases hA2 with ⟨h, _⟩ | ⟨h, _⟩
      · have h' : Lib.atoiAll W2 = .ok a2 := by simpa using h
        rw [h'] at hk'; cases hk'; rfl
      · exact absurd hk' (by simpa using h k'))
    have B3 := hide (below_trans (unhide B2) hb3)
    clear hA2 hb3
    have hb := (unhide HBX).below (unhide B3) hebw
    obtain ⟨c4, f4⟩ := hb 4 _ rfl
    have HB3 := hide hb
    have HT3 := hide ((unhide HT).kept (r := none) ⟨(unhide B3).os, (unhide B3).tape, (unhide B3).output, (unhide B3).size, fun j hj _ => (unhide B3).block j hj⟩ (fun q hq => by cases hq))
    clear hb
    have HN3 : Hid ((w3.alloc (.cells #[.int .i64 a1, .int .i64 a2] 184)).heap[w3.heap.size]? = some (.cells (cells2 (a1, a2)).toArray 184 (0, 0))) := hide (MapKept.heap_alloc _ _).1
    have HT4 := hide ((unhide HT3).kept (r := none) (Evs.growB (below_alloc w3 (.cells #[.int .i64 a1, .int .i64 a2] 184)) none) (fun q hq => by cases hq))
    have hz3 := (unhide B3).size
    have HG : Hid (∀ W4, (w3.alloc (.cells #[.int .i64 a1, .int .i64 a2] 184)).grownBy W4 tv.ownBlock → KeepB eb B w W4 ∧ W4.heap[eb]? = w3.heap[eb]?) := hide (fun W4 hg => by
      have hq : ∀ q, tv.ownBlock = some q → B ≤ q := fun q hq => ((unhide HT4).blk q hq).1
      refine ⟨((KeepB.below (unhide B3)).trans (KeepB.below (below_alloc _ _))).trans (KeepB.grown hg hq), ?_⟩
      rw [hg.block eb (by simp; omega) (fun e => by have := hq eb e.symm; omega)]
      exact Below.heap_alloc _ _ _ (by omega))
    rw [htf] at c4 HT4 HG
    go_wp2_with (first | (at_builtin; refine listAppT _ rfl _ _ rfl B w3.heap.size ts.length _ ts (a1, a2) rfl rfl (unhide HT4) rfl (unhide HN3) hl (by simp; omega) ?_; intro g c w4 h1 h2; obtain ⟨kb4, e4⟩ := unhide HG w4 h2; have T4 := hide h1; have KB4 := hide kb4; have hA4 := (unhide HB3).kept e4; have HA4 := hide hA4; obtain ⟨d4, g4⟩ := hA4 4 _ rfl; clear h1 h2 kb4 e4 hA4) | fail)
    go_end0
    exact ⟨rfl, n, _, ts ++ [(a1, a2)], unhide HO _ _ (.inr ⟨by trivial, rfl, a1, a2, unhide HV1, unhide HV2, rfl⟩), (unhide HA4).set 4 _, by
      have := (unhide T4).kept (r := some eb) (Evs.growS w4 eb 4 (.slice (some ⟨g, 0, none⟩) (ts.length + 1) c)) (fun q hq => by cases hq; omega)
      exact this, (unhide KB4).trans (KeepB.set _ _ _)⟩
end Go.Proofs.YtnchgeiinkaefaaGreatDoor.Rule
end

section
/-
  Kids that are read one by one into a row that was made for them.
-/
namespace Go.Proofs.YtnchgeiinkaefaaGreatDoor.Rule
set_option linter.unusedVariables false
open Go.RowKit
open Tiers (T T0 TR hide unhide below_trans)
open Kinds hiding hide unhide below_trans ext_toList

/-- a kid that was not read yet -/
def Z0 : X := (E0, .slice none 0 0, .slice none 0 0)
theorem RowX.made (w : World) (n : Nat) (t : TypeId) : RowX (w.alloc (.cells (madeCells zero5 (n * 5)) t)) w.heap.size (List.replicate n Z0) := by
  have e1 := (MapKept.heap_alloc w (.cells (madeCells zero5 (n * 5)) t)).1
  refine ⟨fun i x hx j u hu => ?_, fun j => ?_⟩
  · have hi : i < n := by
      have := (List.getElem?_eq_some_iff.1 hx).1
      simpa using this
    obtain rfl : Z0 = x := by
      have := (List.getElem?_eq_some_iff.1 hx).2
      simpa using this
    simp only [World.cell?]
    rw [e1]
    match j, hu with
    | 0, hu =>
      obtain rfl : Value.int .i64 0 = u := by simpa [cells5, Z0, E0, Ex.kind, Ex.num, Ex.meter] using hu
      have m0 : (i * 5) % 5 = 0 := by omega
      have l0 : i * 5 < n * 5 := by omega
      simp [madeCells, zero5, l0, m0]
    | 1, hu =>
      obtain rfl : Value.int .i64 0 = u := by simpa [cells5, Z0, E0, Ex.kind, Ex.num, Ex.meter] using hu
      have m0 : (i * 5 + 1) % 5 = 1 := by omega
      have l0 : i * 5 + 1 < n * 5 := by omega
      simp [madeCells, zero5, l0, m0]
    | 2, hu =>
      obtain rfl : Value.string ByteArray.empty = u := by simpa [cells5, Z0, E0, Ex.kind, Ex.num, Ex.meter] using hu
      have m0 : (i * 5 + 2) % 5 = 2 := by omega
      have l0 : i * 5 + 2 < n * 5 := by omega
      simp [madeCells, zero5, l0, m0]
    | 3, hu =>
      obtain rfl : Value.slice none 0 0 = u := by simpa [cells5, Z0, E0, Ex.kind, Ex.num, Ex.meter] using hu
      have m0 : (i * 5 + 3) % 5 = 3 := by omega
      have l0 : i * 5 + 3 < n * 5 := by omega
      simp [madeCells, zero5, l0, m0]
    | 4, hu =>
      obtain rfl : Value.slice none 0 0 = u := by simpa [cells5, Z0, E0, Ex.kind, Ex.num, Ex.meter] using hu
      have m0 : (i * 5 + 4) % 5 = 4 := by omega
      have l0 : i * 5 + 4 < n * 5 := by omega
      simp [madeCells, zero5, l0, m0]
    | j + 5, hu => simp [cells5] at hu
  · simp only [World.frozen?]
    rw [e1]; simp
/-- the world with a kid laid at place j -/
def put5W (W : World) (b j : Nat) (x : X) : World :=
  ((((W.setCell ⟨b, j * 5, none⟩ (.int .i64 x.1.kind)).setCell ⟨b, j * 5 + 1, none⟩ (.int .i64 x.1.num)).setCell ⟨b, j * 5 + 2, none⟩ (.string x.1.meter)).setCell ⟨b, j * 5 + 3, none⟩ x.2.1).setCell ⟨b, j * 5 + 4, none⟩ x.2.2
theorem RowX.put5 {W : World} {b : Nat} {ys zs : List X} {x x' : X} (h : RowX W b (ys ++ x :: zs)) : RowX (put5W W b ys.length x') b (ys ++ x' :: zs) := by
  have r1 := h.set (x' := (.mk x'.1.kind x.1.num x.1.meter x.1.kids x.1.tiers, x.2.1, x.2.2)) (c := 0) (u := .int .i64 x'.1.kind) get_at (by omega) rfl (fun i hi => by match i, hi with | 0, h => exact absurd rfl h | 1, _ => rfl | 2, _ => rfl | 3, _ => rfl | 4, _ => rfl | i + 5, _ => rfl)
  rw [set_at, Nat.add_zero] at r1
  have r2 := r1.set (x' := (.mk x'.1.kind x'.1.num x.1.meter x.1.kids x.1.tiers, x.2.1, x.2.2)) (c := 1) (u := .int .i64 x'.1.num) get_at (by omega) rfl (fun i hi => by match i, hi with | 0, _ => rfl | 1, h => exact absurd rfl h | 2, _ => rfl | 3, _ => rfl | 4, _ => rfl | i + 5, _ => rfl)
  rw [set_at] at r2
  have r3 := r2.set (x' := (.mk x'.1.kind x'.1.num x'.1.meter x.1.kids x.1.tiers, x.2.1, x.2.2)) (c := 2) (u := .string x'.1.meter) get_at (by omega) rfl (fun i hi => by match i, hi with | 0, _ => rfl | 1, _ => rfl | 2, h => exact absurd rfl h | 3, _ => rfl | 4, _ => rfl | i + 5, _ => rfl)
  rw [set_at] at r3
  have r4 := r3.set (x' := (.mk x'.1.kind x'.1.num x'.1.meter x.1.kids x.1.tiers, x'.2.1, x.2.2)) (c := 3) (u := x'.2.1) get_at (by omega) rfl (fun i hi => by match i, hi with | 0, _ => rfl | 1, _ => rfl | 2, _ => rfl | 3, h => exact absurd rfl h | 4, _ => rfl | i + 5, _ => rfl)
  rw [set_at] at r4
  have r5 := r4.set (x' := x') (c := 4) (u := x'.2.2) get_at (by omega) rfl (fun i hi => by match i, hi with | 0, _ => rfl | 1, _ => rfl | 2, _ => rfl | 3, _ => rfl | 4, h => exact absurd rfl h | i + 5, _ => rfl)
  rw [set_at] at r5
  exact r5
theorem put5W_other (W : World) (b j : Nat) (x : X) (c : Nat) (h : c ≠ b) : (put5W W b j x).heap[c]? = W.heap[c]? := by
  have k : ∀ (V : World) (o : Nat) (u : Value), (V.setCell ⟨b, o, none⟩ u).heap[c]? = V.heap[c]? := fun V o u => Below.heap_setCell V ⟨b, o, none⟩ u c (by simpa using h)
  unfold put5W
  rw [k, k, k, k, k]
theorem put5W_size (W : World) (b j : Nat) (x : X) : (put5W W b j x).heap.size = W.heap.size := by simp [put5W]
theorem put5W_below {B : Nat} {w W : World} {b j : Nat} {x : X} (h : Below B w W) (hB : B ≤ b) : Below B w (put5W W b j x) :=
  ((((h.setCell (p := ⟨b, j * 5, none⟩) hB _).setCell (p := ⟨b, j * 5 + 1, none⟩) hB _).setCell (p := ⟨b, j * 5 + 2, none⟩) hB _).setCell (p := ⟨b, j * 5 + 3, none⟩) hB _).setCell (p := ⟨b, j * 5 + 4, none⟩) hB _

/-- kids under way: the boxes rb (the result) and eb (the expression), the row kb -/
structure RdK (w wr : World) (n rb eb kb nk : Nat) (k : Int) (r1 : List UInt8) (j : Nat) (xs : List X) (r : List UInt8) : Prop where
  len : xs.length = j ∧ j ≤ nk
  row : RowX wr kb (xs ++ List.replicate (nk - j) Z0)
  chain : Chain (OX wr n) (kb + 1) wr.heap.size xs
  ebox : Boxes.At wr eb [.int .i64 k, .int .i64 0, .string ⟨#[]⟩, .slice (some ⟨kb, 0, none⟩) nk nk, .slice none 0 0]
  rbox : Boxes.At wr rb [.int .i64 0, .int .i64 0, .string ⟨#[]⟩, .slice none 0 0, .slice none 0 0]
  kids : KidsOf (ReadsI n) r1 (xs.map (·.1)) r
  env : EnvR wr
  below : Below w.heap.size w wr
  blocks : rb < eb ∧ eb < kb ∧ kb < wr.heap.size ∧ w.heap.size ≤ rb
theorem RdK.rest {w wr : World} {n rb eb kb nk : Nat} {k : Int} {r1 : List UInt8} {j : Nat} {xs : List X} {r : List UInt8} (h : RdK w wr n rb eb kb nk k r1 j xs r) (h3 : nk ≤ 3) : r.length ≤ r1.length := by
  have := kids_len (fun t e r => reads_wt n t e r) h.kids
  have hl := h.len
  simp at this
  omega
/-- one kid more -/
theorem RdK.step {w wr w' : World} {n rb eb kb nk : Nat} {k : Int} {r1 : List UInt8} {j : Nat} {xs : List X} {r r' : List UInt8} {x : X} (h : RdK w wr n rb eb kb nk k r1 j xs r) (hj : j < nk) (hb : Below wr.heap.size wr w') (hx : OX w' n wr.heap.size w'.heap.size x) (hr : ReadsI n (trimSp r) x.1 r') (hE : EnvR (put5W w' kb j x)) :
    RdK w (put5W w' kb j x) n rb eb kb nk k r1 (j + 1) (xs ++ [x]) r' := by
  obtain ⟨⟨l1, l2⟩, hrow, hch, he, hrb, hk, hv, hbl, b1, b2, b3, b4⟩ := h
  have hz := hb.size
  have hs : ∀ s e, kb < s → e ≤ w'.heap.size → Same s e w' (put5W w' kb j x) := fun s e hs _ c c1 _ => put5W_other _ _ _ _ _ (by omega)
  refine ⟨⟨by simp [l1], by omega⟩, ?_, ?_, he.kept ((put5W_other _ _ _ _ _ (by omega)).trans (hb.block eb (by omega))), hrb.kept ((put5W_other _ _ _ _ _ (by omega)).trans (hb.block rb (by omega))), ?_, hE, put5W_below (below_trans hbl hb) (by omega), b1, b2, by rw [put5W_size]; omega, b4⟩
  · have e : List.replicate (nk - j) Z0 = Z0 :: List.replicate (nk - (j + 1)) Z0 := by
      rw [← List.replicate_succ]; congr 1; omega
    have h1 := hrow.kept (hb.block kb (by omega))
    rw [e] at h1
    have h2 := h1.put5 (x' := x)
    rw [l1] at h2
    simpa using h2
  · rw [put5W_size]
    refine Chain.append (m := wr.heap.size) (hch.imp (lo := kb + 1) (hi := wr.heap.size) (fun s e y hs1 he1 hy => hy.kept (same_trans (same_below hb he1) (hs s e (by omega) (by omega)))) (Nat.le_refl _) (Nat.le_refl _)) ⟨w'.heap.size, hz, Nat.le_refl _, hx.kept (hs _ _ b3 (Nat.le_refl _)), Nat.le_refl _⟩ (fun s s' e y hs hy => hy.mono hs (Nat.le_refl _))
  · rw [List.map_append]
    exact hk.snoc hr
end Go.Proofs.YtnchgeiinkaefaaGreatDoor.Rule
end
