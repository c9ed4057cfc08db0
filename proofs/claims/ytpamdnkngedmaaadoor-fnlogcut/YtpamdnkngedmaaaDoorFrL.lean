/-
  What impl.framesOf hands out: the texts whose frames a log begins with, and where each frame ends.
-/
import Derived.Test.YtpamdnkngedmaaaDoorFrA
import Derived.RangeFuncNested
import Derived.RangeFuncBound
import Derived.RangeFuncCalls
import Derived.RangeFuncLeaves
import Derived.Shelf.Abstract
import Derived.Shelf.RegionOpen
import Derived.OwnWalkIn
import Derived.TacticsInMore
import Derived.LoopNIn
import Derived.LoopIn
namespace Go.Proofs.YtpamdnkngedmaaaDoor.Fr
set_option linter.unusedVariables false
open Go.RowKit Go.Shelf
open _root_.Go.Proofs.YtpamdnkngedmaaaDoor.Text (Env)

attribute [local go_sem] Oper.semAt_some

/-- what a round keeps: the blocks of S -/
structure KpS (S : Nat → Prop) (W W' : World) : Prop where
  os : W'.os = W.os
  tape : W'.tape = W.tape
  output : W'.output = W.output
  size : W.heap.size ≤ W'.heap.size
  same : ∀ j, S j → W'.heap[j]? = W.heap[j]?
theorem KpS.trans {S : Nat → Prop} {A C D : World} (h : KpS S A C) (k : KpS S C D) : KpS S A D :=
  ⟨k.os.trans h.os, k.tape.trans h.tape, k.output.trans h.output, Nat.le_trans h.size k.size, fun j hj => (k.same j hj).trans (h.same j hj)⟩
theorem KpS.put {S : Nat → Prop} {n : Nat} (hn : ∀ j, S j → j < n) (W : World) (l : Nat) (o o' : Obj) (hl : n ≤ l) (_ : W.heap[l]? = some o) (_ : o.isCells = false) (_ : o.isWalk = false) : KpS S W (W.putObj l o') :=
  ⟨rfl, rfl, rfl, by simp, fun j hj => World.putObj_heap_other (by have := hn j hj; omega)⟩
theorem KpS.grown {S : Nat → Prop} {W W' : World} {r : Option Nat} (hg : W.grownBy W' r) (hS : ∀ j, S j → j < W.heap.size) (hr : ∀ j, r = some j → ¬ S j) : KpS S W W' :=
  ⟨hg.os, hg.tape, hg.output, hg.size, fun j hj => hg.block j (hS j hj) (fun e => hr j e.symm hj)⟩
theorem KpS.cell {S : Nat → Prop} {W W' : World} (h : KpS S W W') {j o : Nat} {v : Value} (hc : W.cell? ⟨j, o, none⟩ = some v) (hj : S j) : W'.cell? ⟨j, o, none⟩ = some v :=
  (World.cell?_of_block (h.same j hj)).trans hc
theorem KpS.below {S : Nat → Prop} {W W' : World} {n : Nat} (h : KpS S W W') (hn : ∀ j, j < n → S j) : Below n W W' :=
  ⟨h.os, h.tape, h.output, h.size, fun j hj => h.same j (hn j hj)⟩
theorem grown_b {a b : World} (h : Below a.heap.size a b) (r : Option Nat) : a.grownBy b r := ⟨h.os, h.tape, h.output, h.size, fun j hj _ => h.block j hj⟩

/-- what has been handed out -/
def Ys (l : List UInt8) (ys : List (ByteArray × Nat)) (a : Nat) : Prop := At l (ys.map (·.1)) a ∧ (ys.getLastD (ByteArray.empty, 0)).2 = a
theorem Ys.start (l : List UInt8) : Ys l [] 0 := ⟨At.start l, rfl⟩
theorem Ys.step {l : List UInt8} {ys : List (ByteArray × Nat)} {a : Nat} {t : ByteArray} (h : Ys l ys a) (k : IsFr (l.drop a) t.data.toList) : Ys l (ys ++ [(t, a + (frB t.data.toList).length)]) (a + (frB t.data.toList).length) := by
  refine ⟨?_, by simp⟩
  rw [List.map_append]
  exact h.1.step k
theorem Ys.short {l : List UInt8} {ys : List (ByteArray × Nat)} {a : Nat} (h : Ys l ys a) : ys.length < l.length + 1 := by
  have := h.1.count
  rw [List.length_map] at this
  omega
theorem ext_end (s : ByteArray) (a : Nat) : (s.extract a s.size).data.toList = s.data.toList.drop a := by
  simp [ByteArray.data_extract]
  rw [List.take_of_length_le]
  rw [List.length_drop, toL]; exact Nat.le_refl _
abbrev yE (x : ByteArray × Nat) : Array Value := #[.string x.1, .int .i64 (x.2 : Nat)]

set_option maxRecDepth 100000 in
set_option maxHeartbeats 2000000 in
theorem frames1 (n : Nat) (hn : 1 ≤ n) (lp Bm n0 : Nat) (S : Nat → Prop) (s : ByteArray) (hs : s.size ≤ 1000000) (tp : TypeId) (v : Value) (w0 : World) (he : Env w0) (hv : ErrAt w0 tp v) (hn0 : w0.heap.size = n0) (J Jx : List (ByteArray × Nat) → World → Prop)
    (W : World) (hBm : S Bm) (hS : ∀ j, S j → j < W.heap.size) (hlow : ∀ j, j < n0 → S j) (hw0 : Below n0 w0 W) (hJa : AbidesFrom W.heap.size J)
    (hY : ∀ pre x W1, J pre W1 → pre.length < s.data.toList.length + 1 → YieldAt Fence.wide (n - 1) Tryd.prog lp (yE x) W1 fun e W' =>
      (e = .returned (.bool true) ∧ J (pre ++ [x]) W' ∧ KpS S W1 W') ∨ (e = .returned (.bool false) ∧ Jx (pre ++ [x]) W'))
    (hc : W.cell? ⟨Bm, 0, none⟩ = some (.string s)) (h0 : J [] W) :
    CallsIn Fence.wide n Tryd.prog 31 #[.func (.yield lp) #[] #[], .pointer (some ⟨Bm, 0, none⟩)] W fun e W' => (∃ v, e = .returned v) ∧
      ((∃ ys, (∃ a, Ys s.data.toList ys a ∧ ∀ t, ¬ IsFr (s.data.toList.drop a) t) ∧ J ys W') ∨ (∃ pre, True ∧ Jx pre W')) := by
  have HJ := hide hJa
  have HY := hide hY
  have HS := hide hS
  have HLOW := hide hlow
  have HE := hide he
  have HV := hide hv
  have HY0 := hide (Ys.start s.data.toList)
  have H0 := hide h0
  have HW0 := hide hw0
  clear hJa hY h0 hS hlow he hv hw0
  refine callsIn_of_wp Tryd.func31 rfl trivial ?_ rfl
  simp only [Tryd.ntmps31, List.size_toArray, List.length_cons, List.length_nil, Nat.reduceAdd, Nat.reduceSub, Array.replicate_succ, Array.replicate_zero, List.push_toArray, List.append_toArray, List.nil_append, List.cons_append]
  gi_wp2_with (fail)
  gi_loopw [3] (fun t3 wr => ∃ (ys : List (ByteArray × Nat)) (a : Nat), t3 = .int .i64 a ∧ a ≤ s.size ∧ Hid (Ys s.data.toList ys a) ∧ Hid (J ys wr) ∧ Hid (Below n0 w0 wr) ∧ wr.cell? ⟨Bm, 0, none⟩ = some (.string s) ∧ Hid (∀ j, S j → j < wr.heap.size) ∧ W.heap.size ≤ wr.heap.size) (fun t3 _ => s.size - (intOf t3).toNat)
  case atStart => exact ⟨[], 0, rfl, Nat.zero_le _, HY0, H0, HW0, hc, HS, Nat.le_refl _⟩
  case round =>
    obtain ⟨ys, a, rfl, ha, hys, hJs, hw, hcm, hSs, hsz⟩ := hrel
    have HX := hide (ext_end s a)
    have hxs : (s.extract a s.size).size ≤ 1000000 := by rw [ByteArray.size_extract]; omega
    have HF := hide (frameAt (s.extract a s.size) tp v wr hxs ((unhide HE).kept (hn0 ▸ unhide hw)) ((unhide HV).kept (hn0 ▸ unhide hw)))
    have hxz : (s.extract a s.size).size = s.size - a := by rw [ByteArray.size_extract]; omega
    generalize hX : s.extract a s.size = X at *
    gi_wp2_with (fail)
    refine ⟨trivial, (callsIn_wide.2 (unhide HF)).mono ?_⟩
    rintro e W2 ⟨hb2, ⟨t, hfr, rfl⟩ | ⟨hno, rfl⟩⟩
    · rw [unhide HX] at hfr
      have HYS := hide ((unhide hys).step hfr)
      have hle := (unhide HYS).1.le
      rw [toL] at hle
      have h4 := frB_pos t.data.toList
      have hshort := (unhide hys).short
      have J2 := hide (unhide HJ ys wr W2 none (unhide hJs) (grown_b hb2 none) (by simp))
      have hcm2 : W2.cell? ⟨Bm, 0, none⟩ = some (.string s) := (hb2.cell (p := ⟨Bm, 0, none⟩) (unhide hSs Bm hBm)).trans hcm
      have hz2 := hb2.size
      have HS2 : Hid (∀ j, S j → j < W2.heap.size) := hide (fun j hj => Nat.lt_of_lt_of_le (unhide hSs j hj) hz2)
      have HW2 := hide ((unhide hw).trans (hb2.mono (Nat.le_trans (show n0 ≤ w0.heap.size by omega) (by have := (unhide hw).size; omega))))
      obtain ⟨fn, tmps, assign, body, hy, hR⟩ := unhide HY ys (t, a + (frB t.data.toList).length) W2 (unhide J2) hshort
      have HR := hide hR
      clear hR hb2 hfr hys hJs hw hSs hshort
      simp only [yE] at hy
      have hae : (a : Int) + ((frB t.data.toList).length : Int) = ((a + (frB t.data.toList).length : Nat) : Int) := by omega
      generalize hfl : (frB t.data.toList).length = fl at *
      have hlt : a < a + fl := by omega
      generalize a + fl = b at *
      gi_wp2_with (fail)
      refine (unhide HR).mono ?_
      rintro e W3 (⟨rfl, hJ3, hk3⟩ | ⟨rfl, hJx3⟩)
      · have hcm3 := hk3.cell hcm2 hBm
        have HS3 : Hid (∀ j, S j → j < W3.heap.size) := hide (fun j hj => Nat.lt_of_lt_of_le (unhide HS2 j hj) hk3.size)
        have HW3 := hide ((unhide HW2).trans (hk3.below (unhide HLOW)))
        have z3 : W.heap.size ≤ W3.heap.size := Nat.le_trans hsz (Nat.le_trans hz2 hk3.size)
        have HJ3 := hide hJ3
        clear hJ3 hk3 hy HR J2
        gi_wp2_with (fail)
        go_roundw
        case rel => exact ⟨ys ++ [(t, b)], b, rfl, hle, HYS, HJ3, HW3, hcm3, HS3, z3⟩
        case measure => simp [intOf]; omega
      · have HJ3 := hide hJx3
        clear hJx3 hy HR J2
        gi_wp2_with (fail)
        refine bodyPost_ret (results_none (by rfl) _ _ _) (by rfl) ?_
        exact ⟨⟨_, rfl⟩, .inr ⟨_, trivial, unhide HJ3⟩⟩
    · rw [unhide HX] at hno
      have J2 := hide (unhide HJ ys wr W2 none (unhide hJs) (grown_b hb2 none) (by simp))
      have HYS := hide hno
      clear hno hb2 hJs
      gi_wp2_with (fail)
      refine ⟨by simp, ?_⟩
      gi_wp2_with (fail)
      refine bodyPost_ret (results_none rfl _ _ _) rfl ?_
      exact ⟨⟨_, rfl⟩, .inl ⟨_, ⟨a, unhide hys, unhide HYS⟩, unhide J2⟩⟩

/-- what framesOf hands out, as a loop over it wants it -/
theorem frames_stops (n : Nat) (hn : 1 ≤ n) (Bm n0 : Nat) (S : Nat → Prop) (s : ByteArray) (hs : s.size ≤ 1000000) (tp : TypeId) (v : Value) (w0 : World) (he : Env w0) (hv : ErrAt w0 tp v) (hn0 : w0.heap.size = n0) (w : World) (hBm : S Bm) (hS : ∀ j, S j → j < w.heap.size) (hlow : ∀ j, j < n0 → S j) (hw0 : Below n0 w0 w)
    (hc : w.cell? ⟨Bm, 0, none⟩ = some (.string s)) :
    SeqStopsK Fence.wide n Tryd.prog 31 #[.pointer (some ⟨Bm, 0, none⟩)] yE (KpS S) (fun ys => ∃ a, Ys s.data.toList ys a ∧ ∀ t, ¬ IsFr (s.data.toList.drop a) t) (fun _ => True) (s.data.toList.length + 1) w :=
  fun lp J Jx W hW hJ _ hY h0 =>
    frames1 n hn lp Bm n0 S s hs tp v w0 he hv hn0 J Jx W hBm (fun j hj => Nat.lt_of_lt_of_le (hS j hj) hW.size) hlow (hw0.trans (hW.mono (by have := hw0.size; omega))) hJ hY ((hW.cell (p := ⟨Bm, 0, none⟩) (hS Bm hBm)).trans hc) h0

/-- impl.framesOf -/
theorem framesOfI (n : Nat) (s : ByteArray) (w : World) :
    CallsIn Fence.wide n Tryd.prog 27 #[.string s] w fun e w' => e = .returned (.func (.func 31) #[] #[.pointer (some ⟨w.heap.size, 0, none⟩)]) ∧ w' = w.alloc (.cells #[.string s] 9) := by
  refine callsIn_of_wp Tryd.func27 rfl trivial ?_ rfl
  simp only [Tryd.ntmps27, List.size_toArray, List.length_cons, List.length_nil, Nat.reduceAdd, Nat.reduceSub, Array.replicate_succ, Array.replicate_zero, List.push_toArray, List.append_toArray, List.nil_append, List.cons_append]
  gi_wp2
  go_ret
  exact ⟨rfl, rfl⟩
end Go.Proofs.YtpamdnkngedmaaaDoor.Fr
