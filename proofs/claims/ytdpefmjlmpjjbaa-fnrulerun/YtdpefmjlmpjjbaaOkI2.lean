/-
  impl.okWithin, behind its head.
-/
import Derived.Test.YtdpefmjlmpjjbaaOkI
import Derived.Deep.RegionWith
namespace Go.Proofs.Ytdpefmjlmpjjbaa.Rule
set_option linter.unusedVariables false
open Go.RowKit Tiers
open Kinds hiding hide unhide below_trans ext_toList

/-- what is there behind the head of okWithin: the expression in its box, and one less in the pointer's cell -/
structure Head (w W : World) (pb : Nat) (e : Ex) (kv tv : Value) (m : Int) : Prop where
  box : W.cell? ⟨w.heap.size, 0, none⟩ = some (.int .i64 e.kind) ∧ W.cell? ⟨w.heap.size, 1, none⟩ = some (.int .i64 e.num) ∧ W.cell? ⟨w.heap.size, 2, none⟩ = some (.string e.meter) ∧ W.cell? ⟨w.heap.size, 3, none⟩ = some kv ∧ W.cell? ⟨w.heap.size, 4, none⟩ = some tv
  cell : W.cell? ⟨pb, 0, none⟩ = some (.int .i64 m)
  frozen : W.frozen? ⟨pb, 0, none⟩ = false
  grown : w.grownBy W (some pb)
  size : w.heap.size < W.heap.size
theorem Head.kept {w W W' : World} {pb : Nat} {e : Ex} {kv tv : Value} {m : Int} (h : Head w W pb e kv tv m) (hb : Below W.heap.size W W') (hpb : pb < w.heap.size) : Head w W' pb e kv tv m := by
  obtain ⟨⟨b0, b1, b2, b3, b4⟩, hc, hf, hg, hs⟩ := h
  refine ⟨⟨(hb.cell (p := ⟨w.heap.size, 0, none⟩) hs).trans b0, (hb.cell (p := ⟨w.heap.size, 1, none⟩) hs).trans b1, (hb.cell (p := ⟨w.heap.size, 2, none⟩) hs).trans b2, (hb.cell (p := ⟨w.heap.size, 3, none⟩) hs).trans b3, (hb.cell (p := ⟨w.heap.size, 4, none⟩) hs).trans b4⟩,
    (hb.cell (p := ⟨pb, 0, none⟩) (by simp; omega)).trans hc, (hb.frozen (p := ⟨pb, 0, none⟩) (by simp; omega)).trans hf, ?_, Nat.lt_of_lt_of_le hs hb.size⟩
  exact ⟨hb.os.trans hg.os, hb.tape.trans hg.tape, hb.output.trans hg.output, Nat.le_trans hg.size hb.size, fun j hj hne => (hb.block j (by omega)).trans (hg.block j hj hne)⟩
theorem Head.drew {w W : World} {pb : Nat} {e : Ex} {kv tv : Value} {m : Int} (h : Head w W pb e kv tv m) : Head w W.drew pb e kv tv m := ⟨h.box, h.cell, h.frozen, ⟨h.grown.os, h.grown.tape, h.grown.output, h.grown.size, h.grown.block⟩, h.size⟩
theorem Head.new (w : World) (pb : Nat) (e : Ex) (kv tv : Value) (m : Int) (t : TypeId) (hpb : pb < w.heap.size) (hc : w.cell? ⟨pb, 0, none⟩ = some (.int .i64 m)) (hf : w.frozen? ⟨pb, 0, none⟩ = false) :
    Head w ((w.setCell ⟨pb, 0, none⟩ (.int .i64 (m - 1))).alloc (.cells #[.int .i64 e.kind, .int .i64 e.num, .string e.meter, kv, tv] t)) pb e kv tv (m - 1) := by
  obtain ⟨x1, x2, x3⟩ := after_set w (.cells #[.int .i64 e.kind, .int .i64 e.num, .string e.meter, kv, tv] t) pb _ (.int .i64 (m - 1)) hpb hc hf
  have n := new5 (w.setCell ⟨pb, 0, none⟩ (.int .i64 (m - 1))) (.int .i64 e.kind) (.int .i64 e.num) (.string e.meter) kv tv t
  have hs : (w.setCell ⟨pb, 0, none⟩ (.int .i64 (m - 1))).heap.size = w.heap.size := by simp
  rw [hs] at n
  exact ⟨n, x1, x2, x3, by simp⟩

set_option maxHeartbeats 1600000 in
theorem okW_kids (pb : Nat) (ka : Option Addr) (kc : Nat) (tv : Value) (e : Ex) (depth m : Int) (w : World) (hpb : pb < w.heap.size) (d1 : 1 ≤ depth) (d2 : depth ≤ 8) (m1 : 1 ≤ m) (m2 : m ≤ 40) (hc : w.cell? ⟨pb, 0, none⟩ = some (.int .i64 m)) (hf : w.frozen? ⟨pb, 0, none⟩ = false)
    (hk : 1 ≤ e.kind ∧ e.kind ≤ 10) (hkl : e.kids.length ≤ 1048576) (h : (e.kids.length : Int) ≠ kidsK e.kind) :
    Calls Try.prog 20 #[.agg #[.int .i64 e.kind, .int .i64 e.num, .string e.meter, .slice ka e.kids.length kc, tv], .int .i64 depth, .pointer (some ⟨pb, 0, none⟩)] w fun x w' => ∃ (r : Bool) (m' : Int), x = .returned (.bool r) ∧ WOk e depth m r m' ∧ w'.cell? ⟨pb, 0, none⟩ = some (.int .i64 m') ∧ w'.frozen? ⟨pb, 0, none⟩ = false ∧ w.grownBy w' (some pb) := by
  have HW : Hid (WOk e depth m false (m - 1)) := hide ⟨fun h => (by cases h), fun _ ⟨a, _, _⟩ => h (nodeE_in (allB_node a)).2.2.1⟩
  have b1 : ((e.kids.length : Int) != kidsK e.kind) = true := bne_iff_ne.2 h
  have hne : ¬ w.heap.size = pb := by omega
  have hne' : ¬ pb = w.heap.size := by omega
  have hH := Head.new w pb e (.slice ka e.kids.length kc) tv m 26 hpb hc hf
  obtain ⟨W5, hW5⟩ : ∃ W5, (w.setCell ⟨pb, 0, none⟩ (.int .i64 (m - 1))).alloc (.cells #[.int .i64 e.kind, .int .i64 e.num, .string e.meter, .slice ka e.kids.length kc, tv] 26) = W5 := ⟨_, rfl⟩
  rw [hW5] at hH
  have HW5 := hide hW5
  have HH := hide hH
  obtain ⟨⟨g0, g1, g2, g3, g4⟩, _, _, _, hs5⟩ := hH
  clear hW5 h
  have hkv := kindV_in hk
  have mm1 := mLook hk
  have fl : ∀ (w : World), (Instr.field 78 (.agg #[.string (wordK e.kind), .int .i64 (kidsK e.kind)]) 1).run Try.prog w = .ok (.int .i64 (kidsK e.kind)) w := fun w => by kernel_rfl
  go_enter Try.func20, Try.ntmps20
  go_wp2_with (fail)
  refine (kindOf _ _).mono ?_
  rintro x w1 ⟨rfl, rfl⟩
  rw [hkv]
  clear hkv
  go_wp2_with (fail)
  rw [unhide HW5]
  clear HW5
  first | (go_region_with (go_at_call 64; refine (Kinds.look (wordK e.kind) (kidsK e.kind) _).mono ?_; rintro x w6 ⟨rfl, hb6⟩; have hB6 : Below W5.heap.size W5 w6 := ⟨hb6.os, hb6.tape, hb6.output, hb6.size, hb6.block⟩; clear hb6; have q3 := (hB6.cell (p := ⟨w.heap.size, 3, none⟩) hs5).trans g3)) | fail
  all_goals
    have HH6 := hide ((unhide HH).kept hB6 hpb)
    clear hB6 q3 g0 g1 g2 g3 g4 HH
    go_wp2_with (fail)
    go_ret
    exact ⟨_, _, rfl, unhide HW, (unhide HH6).cell, (unhide HH6).frozen, (unhide HH6).grown⟩

end Go.Proofs.Ytdpefmjlmpjjbaa.Rule
