/-
  The laws' own helpers on slices of texts: markText, markStringS.
-/
import Derived.Test.YtpamdnkngedmaaaDoorTxR
import Derived.Test.YtpamdnkngedmaaaDoorMarkD
import Derived.Laws.IdiomStrings
namespace Go.Proofs.YtpamdnkngedmaaaDoor.Txt
set_option linter.unusedVariables false
open Go.RowKit
open Evs (digs digs_pos digs_zero grow0 growB growT growS)

/-- a string of one byte -/
theorem conv1 (w : World) (c : Int) (h0 : 0 ≤ c) (h1 : c ≤ 255) : (convert 22 9 (.slice (some ⟨w.heap.size, 0, none⟩) 1 1)).run Tryd.prog (w.alloc (.cells #[.int .u8 c] 5)) = .ok (.string ⟨#[UInt8.ofNat c.toNat]⟩) (w.alloc (.cells #[.int .u8 c] 5)) := by
  have h := run_convert_bytes_back (P := Tryd.prog) (w.alloc (.cells #[.int .u8 c] 5)) 22 9 5 ⟨w.heap.size, 0, none⟩ 1 [UInt8.ofNat c.toNat] Tryd.underlying22 Tryd.underlying5 Tryd.underlying9 ?_
  · exact h
  · intro j hj
    obtain rfl : j = 0 := by simpa using hj
    have e : ((UInt8.ofNat c.toNat).toNat : Int) = c := by
      simp; omega
    rw [Addr.add_lit]
    show (w.alloc _).cell? _ = some (.int .u8 ((UInt8.ofNat c.toNat).toNat : Int))
    rw [e]
    have e1 := (MapKept.heap_alloc w (.cells #[.int .u8 c] 5)).1
    simp only [World.cell?]
    rw [e1]; rfl
theorem cat (a b : List UInt8) : ((⟨a.toArray⟩ : ByteArray) ++ ⟨b.toArray⟩) = ⟨(a ++ b).toArray⟩ := by
  apply ByteArray.ext; simp
theorem digit (k : Nat) : 48 + UInt8.ofNat k = UInt8.ofNat (48 + k) := by rw [UInt8.ofNat_add]; rfl

set_option maxHeartbeats 800000 in
/-- markText -/
theorem markT (n : Nat) (w : World) (h1 : 1 ≤ n) (hn : n ≤ 1000000000) : Calls Tryd.prog 29 #[.int .i64 (n : Int)] w fun e w' => e = .returned (.string (Evs.mt n)) ∧ Below w.heap.size w w' := by
  generalize hr : Evs.mt n = r
  have HR := hide hr
  clear hr
  have y1 : (0 : Int) < (n : Int) := by omega
  go_enter Tryd.func29, Tryd.ntmps29
  go_wp2
  go_loopw [0, 3] (fun t0 t3 wr => ∃ (m : Nat) (out : List UInt8), m ≤ n ∧ t0 = .int .i64 m ∧ t3 = .string ⟨out.toArray⟩ ∧ Hid (digs n = digs m ++ out) ∧ out.length + m ≤ n ∧ Below w.heap.size w wr) (fun t0 _ _ => (intOf t0).toNat)
  case atStart => exact ⟨n, [], Nat.le_refl _, rfl, rfl, by show _ = _; simp, by simp, Below.refl _ _⟩
  case round =>
    obtain ⟨m, out, hm, rfl, rfl, hd, hl, hb⟩ := hrel
    have hl2 : 1 + out.length ≤ 9223372036854775807 := by omega
    by_cases h0 : 0 < m
    · have hcv := conv1 wr (48 + (m : Int) % 10) (by omega) (by omega)
      have y2 : (0 : Int) < (m : Int) := by omega
      go_wp2
      refine ⟨⟨m / 10, UInt8.ofNat (48 + m % 10) :: out, by omega, by go_num, ?_, ?_, by simp; omega, hb.alloc hb.size _⟩, by simp [intOf]; omega⟩
      · have := cat [48 + UInt8.ofNat (m % 10)] out
        rw [digit] at this ⊢
        exact congrArg Value.string this
      · show _ = _
        rw [unhide hd, digs_pos h0]; simp
    · obtain rfl : m = 0 := by omega
      have hout : digs n = out := by rw [unhide hd, digs_zero]; rfl
      go_wp2
      go_ret
      refine ⟨?_, hb⟩
      rw [← unhide HR, Evs.mt, hout]
      exact congrArg (fun x => Ending.returned (.string x)) (cat [109] out)

/-- marks: k, k + 1, .. -/
def marksT (k n : Nat) : List ByteArray := (List.range n).map fun i => Evs.mt (k + i)
theorem marksT_len (k n : Nat) : (marksT k n).length = n := by simp [marksT]
theorem marksT_step (k : Nat) (l : List ByteArray) (j : Nat) (h : j < l.length) : (marksT k j ++ l.drop j).set j (Evs.mt (k + j)) = marksT k (j + 1) ++ l.drop (j + 1) := by
  rw [List.set_append_right _ _ (by rw [marksT_len]; omega), marksT_len, Nat.sub_self, List.drop_eq_getElem_cons h, List.set_cons_zero]
  simp [marksT, List.range_succ]

set_option maxHeartbeats 800000 in
/-- markStringS: the row holds the texts that mark -/
theorem markStr (b cap : Nat) (l : List ByteArray) (k : Nat) (w : World) (h : TO w b l) (hl : l.length ≤ 1048576) (h0 : 1 ≤ k) (h1 : k ≤ 100000000) :
    Calls Tryd.prog 16 #[.slice (some ⟨b, 0, none⟩) l.length cap, .int .i64 (k : Int)] w fun e w' => e = .returned (.int .i64 ((k + l.length : Nat) : Int)) ∧ TO w' b (marksT k l.length) ∧ w.grownBy w' (some b) := by
  have HO := hide h
  clear h
  go_enter Tryd.func16, Tryd.ntmps16
  go_wp2
  go_loopw [1, 5] (fun t i wr => ∃ j : Nat, j ≤ l.length ∧ i = .int .i64 j ∧ t = .int .i64 ((k + j : Nat) : Int) ∧ Hid (TO wr b (marksT k j ++ l.drop j)) ∧ Hid (w.grownBy wr (some b))) (fun _ i _ => l.length - (intOf i).toNat)
  case atStart => exact ⟨0, Nat.zero_le _, rfl, by simp, by show TO _ _ _; simpa [marksT] using unhide HO, hide (grow0 _ _)⟩
  case round =>
    obtain ⟨j, hj, rfl, rfl, hd, hg⟩ := hrel
    by_cases hlt : j < l.length
    · have hj2 : j < (marksT k j ++ l.drop j).length := by rw [List.length_append, marksT_len, List.length_drop]; omega
      have HS := hide (marksT_step k l j hlt)
      generalize marksT k j ++ l.drop j = L at *
      have i1 : (0 : Int) ≤ (j : Int) := by omega
      have i2 : (j : Int) < (l.length : Int) := by omega
      go_wp2_with (fail)
      refine (markT (k + j) wr (by omega) (by omega)).mono ?_
      rintro e w1 ⟨rfl, hb1⟩
      have ho1 := (unhide hd).kept hb1
      have c0 := ho1.1.2 j hj2
      have f0 := ho1.2 j
      rw [Nat.zero_add] at c0
      have ho2 := ho1.set hj2 (Evs.mt (k + j))
      rw [unhide HS] at ho2
      have O2 := hide ho2
      have G2 := hide (growT (growT (unhide hg) (growB hb1 _)) (growS w1 b j (.string (Evs.mt (k + j)))))
      generalize L.getD j S0 = y at *
      clear ho1 ho2 hb1 hd hg HS hj2
      go_wp2
      exact ⟨⟨j + 1, by omega, by go_num, by go_num, O2, G2⟩, by simp [intOf]; omega⟩
    · obtain rfl : j = l.length := by omega
      go_wp2
      go_ret
      refine ⟨rfl, ?_, unhide hg⟩
      have := unhide hd
      simpa using this
end Go.Proofs.YtpamdnkngedmaaaDoor.Txt
