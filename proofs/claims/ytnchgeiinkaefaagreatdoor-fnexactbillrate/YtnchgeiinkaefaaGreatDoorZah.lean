/-
  Texts of this proof laid together, in build order; each says of itself what it holds.
-/
import Derived.Test.YtnchgeiinkaefaaGreatDoorZag
import Derived.WideLaws
import Derived.Deep.RegionWith
import Derived.Test.YtnchgeiinkaefaaGreatDoorZad
import Derived.Test.YtnchgeiinkaefaaGreatDoorZae
import Derived.Test.YtnchgeiinkaefaaGreatDoorZab
section
/-
  impl.okWithin, impl.RuleOk.
-/
namespace Go.Proofs.YtnchgeiinkaefaaGreatDoor.Rule
set_option linter.unusedVariables false
open Go.RowKit Tiers
open Kinds hiding hide unhide below_trans ext_toList

/-- which function 'fits' is -/
def fitsF (k : Int) : Nat := if k = 1 then 265 else if k = 2 then 268 else if k = 6 then 273 else if k = 10 then 278 else 261
theorem mFitsPair (s : ByteArray) (n : Int) (f : Value) (w : World) : (method 453 224 (.agg #[.string s, .int .i64 n, f]) "loop.example/scot/impl.fits").run Tryz.prog w = .ok (261, .agg #[.string s, .int .i64 n]) w := by kernel_rfl
theorem mFitsPart (s : ByteArray) (n : Int) (w : World) : (method 453 225 (.agg #[.string s, .int .i64 n]) "loop.example/scot/impl.fits").run Tryz.prog w = .ok (273, .agg #[.string s, .int .i64 n]) w := by kernel_rfl
theorem mFitsIf (s : ByteArray) (n : Int) (w : World) : (method 453 226 (.agg #[.string s, .int .i64 n]) "loop.example/scot/impl.fits").run Tryz.prog w = .ok (261, .agg #[.string s, .int .i64 n]) w := by kernel_rfl
theorem mFitsSteps (s : ByteArray) (n : Int) (w : World) : (method 453 227 (.agg #[.string s, .int .i64 n]) "loop.example/scot/impl.fits").run Tryz.prog w = .ok (278, .agg #[.string s, .int .i64 n]) w := by kernel_rfl
theorem mFitsNum (s : ByteArray) (n : Int) (w : World) : (method 453 221 (.agg #[.string s, .int .i64 n]) "loop.example/scot/impl.fits").run Tryz.prog w = .ok (265, .agg #[.string s, .int .i64 n]) w := by kernel_rfl
theorem mFitsMeter (s : ByteArray) (n : Int) (w : World) : (method 453 222 (.agg #[.string s, .int .i64 n]) "loop.example/scot/impl.fits").run Tryz.prog w = .ok (268, .agg #[.string s, .int .i64 n]) w := by kernel_rfl
theorem mFits {k : Int} (h : 1 ≤ k ∧ k ≤ 10) (w : World) : (method 453 (typeK k) (recK k) "loop.example/scot/impl.fits").run Tryz.prog w = .ok (fitsF k, lookV k) w := by
  rcases cases10 h with rfl | rfl | rfl | rfl | rfl | rfl | rfl | rfl | rfl | rfl
  · exact mFitsNum _ _ w
  · exact mFitsMeter _ _ w
  · exact mFitsPair _ _ _ w
  · exact mFitsPair _ _ _ w
  · exact mFitsPair _ _ _ w
  · exact mFitsPart _ _ w
  · exact mFitsPair _ _ _ w
  · exact mFitsPair _ _ _ w
  · exact mFitsIf _ _ w
  · exact mFitsSteps _ _ w
theorem eFits {k : Int} (h : 1 ≤ k ∧ k ≤ 10) (args : Array Value) (w : World) : (callFunc (fitsF k) args).run Tryz.prog w = .ok (.enter (fitsF k) args) w := by
  rcases cases10 h with rfl | rfl | rfl | rfl | rfl | rfl | rfl | rfl | rfl | rfl
  all_goals kernel_rfl
/-- the methods 'fits' -/
theorem fitsI {k : Int} (h : 1 ≤ k ∧ k ≤ 10) (n : Int) (m : ByteArray) (ka ta : Option Addr) (nk kc tc : Nat) (ts : List T) (w : World) (z1 : m.size ≤ maxLen) (z2 : ts.length ≤ 1048576) (hT : TR w (.slice ta ts.length tc) ts) :
    Calls Tryz.prog (fitsF k) #[lookV k, .agg #[.int .i64 k, .int .i64 n, .string m, .slice ka nk kc, .slice ta ts.length tc]] w fun e w' => e = .returned (.bool (fitsB k n m ts)) ∧ Below w.heap.size w w' := by
  have z3 : ts.length ≤ maxLen := by unfold maxLen; omega
  rcases cases10 h with rfl | rfl | rfl | rfl | rfl | rfl | rfl | rfl | rfl | rfl
  · exact fitsNum _ _ _ n m ka ta nk kc _ tc w z3
  · exact fitsMeter _ _ _ n m ka ta nk kc tc ts w z1 z3
  · exact fitsLook _ _ _ n m ka ta nk kc _ tc w z3
  · exact fitsLook _ _ _ n m ka ta nk kc _ tc w z3
  · exact fitsLook _ _ _ n m ka ta nk kc _ tc w z3
  · exact fitsPart _ _ _ n m ka ta nk kc _ tc w z3
  · exact fitsLook _ _ _ n m ka ta nk kc _ tc w z3
  · exact fitsLook _ _ _ n m ka ta nk kc _ tc w z3
  · exact fitsLook _ _ _ n m ka ta nk kc _ tc w z3
  · exact fitsSteps _ _ _ n m ka ta nk kc tc ts w z2 hT

/-- what okWithin tells: r, and what is left of m -/
def WOk (e : Ex) (depth m : Int) (r : Bool) (m' : Int) : Prop := (r = true → m' = m - cnt e ∧ 0 ≤ m' ∧ allB e = true ∧ (dep e : Int) ≤ depth) ∧ (r = false → ¬ (allB e = true ∧ (dep e : Int) ≤ depth ∧ (cnt e : Int) ≤ m))
def OkW (d : Nat) : Prop := ∀ (lo hi pb : Nat) (v : Value) (e : Ex) (depth m : Int) (w : World), EV lo hi w d v e → hi ≤ pb → pb < w.heap.size → wt e ≤ 1048576 → 0 ≤ depth → depth ≤ 8 → 0 ≤ m → m ≤ 40 → w.cell? ⟨pb, 0, none⟩ = some (.int .i64 m) → w.frozen? ⟨pb, 0, none⟩ = false →
  Calls Tryz.prog 125 #[v, .int .i64 depth, .pointer (some ⟨pb, 0, none⟩)] w fun x w' => ∃ (r : Bool) (m' : Int), x = .returned (.bool r) ∧ WOk e depth m r m' ∧ w'.cell? ⟨pb, 0, none⟩ = some (.int .i64 m') ∧ w'.frozen? ⟨pb, 0, none⟩ = false ∧ w.grownBy w' (some pb)

theorem cnt_pos (e : Ex) : 1 ≤ cnt e := by rw [cnt_eq]; omega
theorem dep_pos (e : Ex) : 1 ≤ dep e := by rw [dep_eq]; omega
theorem nodeE_in {e : Ex} (h : nodeE e = true) : 1 ≤ e.kind ∧ e.kind ≤ 10 ∧ (e.kids.length : Int) = kidsK e.kind ∧ fitsB e.kind e.num e.meter e.tiers = true := by
  unfold nodeE nodeB at h
  simp only [Bool.and_eq_true, decide_eq_true_eq] at h
  exact ⟨h.1.1, h.1.2.1, h.1.2.2, h.2⟩
theorem allB_node {e : Ex} (h : allB e = true) : nodeE e = true := by
  rw [allB_eq] at h; simp only [Bool.and_eq_true] at h; exact h.1
theorem after_set (w : World) (o : Obj) (pb : Nat) (u v : Value) (hpb : pb < w.heap.size) (hc : w.cell? ⟨pb, 0, none⟩ = some u) (hf : w.frozen? ⟨pb, 0, none⟩ = false) :
    ((w.setCell ⟨pb, 0, none⟩ v).alloc o).cell? ⟨pb, 0, none⟩ = some v ∧ ((w.setCell ⟨pb, 0, none⟩ v).alloc o).frozen? ⟨pb, 0, none⟩ = false ∧ w.grownBy ((w.setCell ⟨pb, 0, none⟩ v).alloc o) (some pb) := by
  refine ⟨?_, ?_, ⟨rfl, rfl, rfl, by simp, fun j hj hne => ?_⟩⟩
  · rw [(below_alloc _ o).cell (p := ⟨pb, 0, none⟩) (by simpa using hpb)]
    exact World.cell?_setCell_same _ _ _ hc
  · rw [(below_alloc _ o).frozen (p := ⟨pb, 0, none⟩) (by simpa using hpb), World.frozen?_setCell]
    exact hf
  · rw [Below.heap_alloc _ _ _ (by simpa using hj)]
    exact Below.heap_setCell _ ⟨pb, 0, none⟩ v j (by intro e; exact hne (by rw [e]))

set_option maxHeartbeats 1600000 in
theorem okW_head (pb : Nat) (kv tv : Value) (e : Ex) (depth m : Int) (w : World) (hpb : pb < w.heap.size) (d1 : 0 ≤ depth) (d2 : depth ≤ 8) (m1 : 0 ≤ m) (m2 : m ≤ 40) (hc : w.cell? ⟨pb, 0, none⟩ = some (.int .i64 m)) (hf : w.frozen? ⟨pb, 0, none⟩ = false)
    (h : ¬ (1 ≤ e.kind ∧ e.kind ≤ 10) ∨ depth < 1 ∨ m < 1) :
    Calls Tryz.prog 125 #[.agg #[.int .i64 e.kind, .int .i64 e.num, .string e.meter, kv, tv], .int .i64 depth, .pointer (some ⟨pb, 0, none⟩)] w fun x w' => ∃ (r : Bool) (m' : Int), x = .returned (.bool r) ∧ WOk e depth m r m' ∧ w'.cell? ⟨pb, 0, none⟩ = some (.int .i64 m') ∧ w'.frozen? ⟨pb, 0, none⟩ = false ∧ w.grownBy w' (some pb) := by
  have HW : Hid (WOk e depth m false (m - 1)) := hide ⟨fun h => (by cases h), fun _ ⟨a, b, c⟩ => by
    have := nodeE_in (allB_node a)
    have := cnt_pos e
    have := dep_pos e
    omega⟩
  have hne : ¬ w.heap.size = pb := by omega
  have hne' : ¬ pb = w.heap.size := by omega
  obtain ⟨x1, x2, x3⟩ := after_set w (.cells #[.int .i64 e.kind, .int .i64 e.num, .string e.meter, kv, tv] 77) pb _ (.int .i64 (m - 1)) hpb hc hf
  have HX1 := hide x1
  have HX2 := hide x2
  have HX3 := hide x3
  clear x1 x2 x3
  by_cases hk : 1 ≤ e.kind ∧ e.kind ≤ 10
  · have hkv := kindV_in hk
    by_cases hd : depth < 1
    · clear h
      go_enter Tryz.func125, Tryz.ntmps125
      go_wp2_with (fail)
      refine (kindOf _ _).mono ?_
      rintro x w1 ⟨rfl, rfl⟩
      rw [hkv]
      clear hkv
      go_wp2_with (fail)
      go_ret
      exact ⟨_, _, rfl, unhide HW, unhide HX1, unhide HX2, unhide HX3⟩
    · have hm : m - 1 < 0 := by omega
      clear h
      go_enter Tryz.func125, Tryz.ntmps125
      go_wp2_with (fail)
      refine (kindOf _ _).mono ?_
      rintro x w1 ⟨rfl, rfl⟩
      rw [hkv]
      clear hkv
      go_wp2_with (fail)
      go_ret
      exact ⟨_, _, rfl, unhide HW, unhide HX1, unhide HX2, unhide HX3⟩
  · have hkv := kindV_out hk
    clear h
    go_enter Tryz.func125, Tryz.ntmps125
    go_wp2_with (fail)
    refine (kindOf _ _).mono ?_
    rintro x w1 ⟨rfl, rfl⟩
    rw [hkv]
    clear hkv
    go_wp2_with (fail)
    go_ret
    exact ⟨_, _, rfl, unhide HW, unhide HX1, unhide HX2, unhide HX3⟩
end Go.Proofs.YtnchgeiinkaefaaGreatDoor.Rule
end

section
/-
  impl.okWithin, behind its head.
-/
namespace Go.Proofs.YtnchgeiinkaefaaGreatDoor.Rule
set_option linter.unusedVariables false
open Go.RowKit Tiers
open Kinds hiding hide unhide below_trans ext_toList

/-- what is there behind the head of okWithin: the expression in its box, and one less in the pointer's cell -/
structure Head (w W : World) (pb : Nat) (e : Ex) (kv tv : Value) (m : Int) : Prop where
  box : W.cell? ⟨w.heap.size, 0, none⟩ = some (.int .i64 e.kind) ∧ W.cell? ⟨w.heap.size, 1, none⟩ = some (.int .i64 e.num) ∧ W.cell? ⟨w.heap.size, 2, none⟩ = some (.string e.meter) ∧ W.cell? ⟨w.heap.size, 3, none⟩ = some kv ∧ W.cell? ⟨w.heap.size, 4, none⟩ = some tv
  cell : W.cell? ⟨pb, 0, none⟩ = some (.int .i64 m)
  frozen : W.frozen? ⟨pb, 0, none⟩ = false
  grown : w.grownBy W (some pb)
  size : w.heap.size < W.heap.size
theorem Head.kept {w W W' : World} {pb : Nat} {e : Ex} {kv tv : Value} {m : Int} (h : Head w W pb e kv tv m) (hb : Below W.heap.size W W') (hpb : pb < w.heap.size) : Head w W' pb e kv tv m := by
  obtain ⟨⟨b0, b1, b2, b3, b4⟩, hc, hf, hg, hs⟩ := h
  refine ⟨⟨(hb.cell (p := ⟨w.heap.size, 0, none⟩) hs).trans b0, (hb.cell (p := ⟨w.heap.size, 1, none⟩) hs).trans b1, (hb.cell (p := ⟨w.heap.size, 2, none⟩) hs).trans b2, (hb.cell (p := ⟨w.heap.size, 3, none⟩) hs).trans b3, (hb.cell (p := ⟨w.heap.size, 4, none⟩) hs).trans b4⟩,
    (hb.cell (p := ⟨pb, 0, none⟩) (by simp; omega)).trans hc, (hb.frozen (p := ⟨pb, 0, none⟩) (by simp; omega)).trans hf, ?_, Nat.lt_of_lt_of_le hs hb.size⟩
  exact ⟨hb.os.trans hg.os, hb.tape.trans hg.tape, hb.output.trans hg.output, Nat.le_trans hg.size hb.size, fun j hj hne => (hb.block j (by omega)).trans (hg.block j hj hne)⟩
theorem Head.drew {w W : World} {pb : Nat} {e : Ex} {kv tv : Value} {m : Int} (h : Head w W pb e kv tv m) : Head w W.drew pb e kv tv m := ⟨h.box, h.cell, h.frozen, ⟨h.grown.os, h.grown.tape, h.grown.output, h.grown.size, h.grown.block⟩, h.size⟩
theorem Head.new (w : World) (pb : Nat) (e : Ex) (kv tv : Value) (m : Int) (t : TypeId) (hpb : pb < w.heap.size) (hc : w.cell? ⟨pb, 0, none⟩ = some (.int .i64 m)) (hf : w.frozen? ⟨pb, 0, none⟩ = false) :
    Head w ((w.setCell ⟨pb, 0, none⟩ (.int .i64 (m - 1))).alloc (.cells #[.int .i64 e.kind, .int .i64 e.num, .string e.meter, kv, tv] t)) pb e kv tv (m - 1) := by
  obtain ⟨x1, x2, x3⟩ := after_set w (.cells #[.int .i64 e.kind, .int .i64 e.num, .string e.meter, kv, tv] t) pb _ (.int .i64 (m - 1)) hpb hc hf
  have n := new5 (w.setCell ⟨pb, 0, none⟩ (.int .i64 (m - 1))) (.int .i64 e.kind) (.int .i64 e.num) (.string e.meter) kv tv t
  have hs : (w.setCell ⟨pb, 0, none⟩ (.int .i64 (m - 1))).heap.size = w.heap.size := by simp
  rw [hs] at n
  exact ⟨n, x1, x2, x3, by simp⟩

set_option maxHeartbeats 1600000 in
theorem okW_kids (pb : Nat) (ka : Option Addr) (kc : Nat) (tv : Value) (e : Ex) (depth m : Int) (w : World) (hpb : pb < w.heap.size) (d1 : 1 ≤ depth) (d2 : depth ≤ 8) (m1 : 1 ≤ m) (m2 : m ≤ 40) (hc : w.cell? ⟨pb, 0, none⟩ = some (.int .i64 m)) (hf : w.frozen? ⟨pb, 0, none⟩ = false)
    (hk : 1 ≤ e.kind ∧ e.kind ≤ 10) (hkl : e.kids.length ≤ 1048576) (h : (e.kids.length : Int) ≠ kidsK e.kind) :
    Calls Tryz.prog 125 #[.agg #[.int .i64 e.kind, .int .i64 e.num, .string e.meter, .slice ka e.kids.length kc, tv], .int .i64 depth, .pointer (some ⟨pb, 0, none⟩)] w fun x w' => ∃ (r : Bool) (m' : Int), x = .returned (.bool r) ∧ WOk e depth m r m' ∧ w'.cell? ⟨pb, 0, none⟩ = some (.int .i64 m') ∧ w'.frozen? ⟨pb, 0, none⟩ = false ∧ w.grownBy w' (some pb) := by
  have HW : Hid (WOk e depth m false (m - 1)) := hide ⟨fun h => (by cases h), fun _ ⟨a, _, _⟩ => h (nodeE_in (allB_node a)).2.2.1⟩
  have b1 : ((e.kids.length : Int) != kidsK e.kind) = true := bne_iff_ne.2 h
  have hne : ¬ w.heap.size = pb := by omega
  have hne' : ¬ pb = w.heap.size := by omega
  have hH := Head.new w pb e (.slice ka e.kids.length kc) tv m 77 hpb hc hf
  obtain ⟨W5, hW5⟩ : ∃ W5, (w.setCell ⟨pb, 0, none⟩ (.int .i64 (m - 1))).alloc (.cells #[.int .i64 e.kind, .int .i64 e.num, .string e.meter, .slice ka e.kids.length kc, tv] 77) = W5 := ⟨_, rfl⟩
  rw [hW5] at hH
  have HW5 := hide hW5
  have HH := hide hH
  obtain ⟨⟨g0, g1, g2, g3, g4⟩, _, _, _, hs5⟩ := hH
  clear hW5 h
  have hkv := kindV_in hk
  have mm1 := mLook hk
  have fl : ∀ (w : World), (Instr.field 192 (.agg #[.string (wordK e.kind), .int .i64 (kidsK e.kind)]) 1).run Tryz.prog w = .ok (.int .i64 (kidsK e.kind)) w := fun w => by kernel_rfl
  go_enter Tryz.func125, Tryz.ntmps125
  go_wp2_with (fail)
  refine (kindOf _ _).mono ?_
  rintro x w1 ⟨rfl, rfl⟩
  rw [hkv]
  clear hkv
  go_wp2_with (fail)
  rw [unhide HW5]
  clear HW5
  first | (go_region_with (go_at_call 262; refine (Kinds.look (wordK e.kind) (kidsK e.kind) _).mono ?_; rintro x w6 ⟨rfl, hb6⟩; have hB6 : Below W5.heap.size W5 w6 := ⟨hb6.os, hb6.tape, hb6.output, hb6.size, hb6.block⟩; clear hb6; have q3 := (hB6.cell (p := ⟨w.heap.size, 3, none⟩) hs5).trans g3)) | fail
  all_goals
    have HH6 := hide ((unhide HH).kept hB6 hpb)
    clear hB6 q3 g0 g1 g2 g3 g4 HH
    go_wp2_with (fail)
    go_ret
    exact ⟨_, _, rfl, unhide HW, (unhide HH6).cell, (unhide HH6).frozen, (unhide HH6).grown⟩

end Go.Proofs.YtnchgeiinkaefaaGreatDoor.Rule
end

section
/-
  impl.okWithin, kid by kid; impl.RuleOk.
-/
namespace Go.Proofs.YtnchgeiinkaefaaGreatDoor.Rule
set_option linter.unusedVariables false
open Go.RowKit Tiers
open Kinds hiding hide unhide below_trans ext_toList

/-- a row of kids -/
def KidsAt (lo hi : Nat) (w : World) (d : Nat) (b o : Nat) (l : List Ex) : Prop := lo ≤ b ∧ b < hi ∧ ∀ i, i < l.length →
  ∃ kv tv, (w.cell? ⟨b, o + i * 5, none⟩ = some (.int .i64 (l.getD i E0).kind) ∧ w.cell? ⟨b, o + i * 5 + 1, none⟩ = some (.int .i64 (l.getD i E0).num) ∧ w.cell? ⟨b, o + i * 5 + 2, none⟩ = some (.string (l.getD i E0).meter) ∧
    w.cell? ⟨b, o + i * 5 + 3, none⟩ = some kv ∧ w.cell? ⟨b, o + i * 5 + 4, none⟩ = some tv) ∧
    ((l.getD i E0).meter.size ≤ maxLen ∧ (l.getD i E0).tiers.length ≤ maxLen) ∧ ES lo hi w d kv (l.getD i E0).kids ∧ TL lo hi w tv (l.getD i E0).tiers

theorem allB_at {e : Ex} (h : allB e = true) {k : Nat} (hk : k < e.kids.length) : allB (e.kids.getD k E0) = true := by
  rw [allB_eq] at h
  simp only [Bool.and_eq_true] at h
  cases h' : allB (e.kids.getD k E0)
  · have := allL_take hk
    rw [h', Bool.and_false] at this
    rw [allL_false this] at h
    cases h.2
  · rfl
theorem dep_at {e : Ex} {k : Nat} (hk : k < e.kids.length) : dep (e.kids.getD k E0) + 1 ≤ dep e := by
  have h1 := depL_take hk
  have h2 := depL_le e.kids (k + 1)
  rw [dep_eq e]; omega
theorem cnt_at {e : Ex} {k : Nat} (hk : k < e.kids.length) : 1 + cntL (e.kids.take k) + cnt (e.kids.getD k E0) ≤ cnt e := by
  have h1 := cntL_take hk
  have h2 := cntL_le e.kids (k + 1)
  rw [cnt_eq e]; omega
/-- k kids are done -/
def KidsOk (e : Ex) (depth m : Int) (k : Nat) (mk : Int) : Prop := mk = m - 1 - cntL (e.kids.take k) ∧ 0 ≤ mk ∧ allL (e.kids.take k) = true ∧ (depL (e.kids.take k) : Int) + 1 ≤ depth
theorem KidsOk.no {e : Ex} {depth m : Int} {k : Nat} {mk m' : Int} (h : KidsOk e depth m k mk) (hk : k < e.kids.length) (hw : WOk (e.kids.getD k E0) (depth - 1) mk false m') : WOk e depth m false m' := by
  refine ⟨fun h => (by cases h), fun _ ⟨a, b, c⟩ => hw.2 rfl ⟨allB_at a hk, ?_, ?_⟩⟩
  · have := dep_at hk; omega
  · have := cnt_at hk; have := h.1; omega
theorem KidsOk.step {e : Ex} {depth m : Int} {k : Nat} {mk m' : Int} (h : KidsOk e depth m k mk) (hk : k < e.kids.length) (hw : WOk (e.kids.getD k E0) (depth - 1) mk true m') : KidsOk e depth m (k + 1) m' := by
  obtain ⟨w1, w2, w3, w4⟩ := hw.1 rfl
  obtain ⟨h1, h2, h3, h4⟩ := h
  refine ⟨by rw [cntL_take hk]; omega, w2, by rw [allL_take hk, h3, w3]; rfl, by rw [depL_take hk]; omega⟩
theorem KidsOk.done {e : Ex} {depth m : Int} {mk : Int} (h : KidsOk e depth m e.kids.length mk) (hn : nodeE e = true) : WOk e depth m true mk := by
  obtain ⟨h1, h2, h3, h4⟩ := h
  rw [List.take_length] at h1 h3 h4
  refine ⟨fun _ => ⟨by rw [cnt_eq]; omega, h2, by rw [allB_eq, hn, h3]; rfl, by rw [dep_eq]; omega⟩, fun h => (by cases h)⟩

set_option maxHeartbeats 3000000 in
/-- behind the kids' number: does it fit? then kid by kid -/
theorem okW_rest {d : Nat} (lo hi pb : Nat) (ka : Option Addr) (kc : Nat) (ta : Option Addr) (tc : Nat) (e : Ex) (depth m : Int) (w : World) (hhi : hi ≤ pb) (hpb : pb < w.heap.size) (d1 : 1 ≤ depth) (d2 : depth ≤ 8) (m1 : 1 ≤ m) (m2 : m ≤ 40) (hc : w.cell? ⟨pb, 0, none⟩ = some (.int .i64 m)) (hf : w.frozen? ⟨pb, 0, none⟩ = false)
    (hk : 1 ≤ e.kind ∧ e.kind ≤ 10) (hw : wt e ≤ 1048576) (h : (e.kids.length : Int) = kidsK e.kind) (hz : e.meter.size ≤ maxLen ∧ e.tiers.length ≤ maxLen) (hT : TL lo hi w (.slice ta e.tiers.length tc) e.tiers)
    (H : e.kids ≠ [] → OkW d) (hK : e.kids = [] ∨ ∃ b o, ka = some ⟨b, o, none⟩ ∧ KidsAt lo hi w d b o e.kids) :
    Calls Tryz.prog 125 #[.agg #[.int .i64 e.kind, .int .i64 e.num, .string e.meter, .slice ka e.kids.length kc, .slice ta e.tiers.length tc], .int .i64 depth, .pointer (some ⟨pb, 0, none⟩)] w fun x w' => ∃ (r : Bool) (m' : Int), x = .returned (.bool r) ∧ WOk e depth m r m' ∧ w'.cell? ⟨pb, 0, none⟩ = some (.int .i64 m') ∧ w'.frozen? ⟨pb, 0, none⟩ = false ∧ w.grownBy w' (some pb) := by
  have hww := wt_eq e
  have hkl := wtL_len e.kids
  have hkl2 : e.kids.length ≤ 1048576 := by omega
  have htl2 : e.tiers.length ≤ 1048576 := by omega
  have HQ : Hid ((e.kids.length : Int) = kidsK e.kind) := hide h
  have b1 : ((e.kids.length : Int) != kidsK e.kind) = false := by simp [h]
  have HNO : Hid (fitsB e.kind e.num e.meter e.tiers = false → WOk e depth m false (m - 1)) := hide (fun hf => ⟨fun h => (by cases h), fun _ ⟨a, _, _⟩ => by have := (nodeE_in (allB_node a)).2.2.2; rw [hf] at this; cases this⟩)
  have hne : ¬ w.heap.size = pb := by omega
  have hne' : ¬ pb = w.heap.size := by omega
  have hH := Head.new w pb e (.slice ka e.kids.length kc) (.slice ta e.tiers.length tc) m 77 hpb hc hf
  obtain ⟨W5, hW5⟩ : ∃ W5, (w.setCell ⟨pb, 0, none⟩ (.int .i64 (m - 1))).alloc (.cells #[.int .i64 e.kind, .int .i64 e.num, .string e.meter, .slice ka e.kids.length kc, .slice ta e.tiers.length tc] 77) = W5 := ⟨_, rfl⟩
  rw [hW5] at hH
  have HW5 := hide hW5
  have HH := hide hH
  have hsame : Same lo hi w W5 := fun b h1 h2 => hH.grown.block b (by omega) (by simp; omega)
  have HT5 := hide (hT.kept hsame)
  have HK := hide hK
  have HZ := hide hz
  have HO := hide H
  obtain ⟨⟨g0, g1, g2, g3, g4⟩, _, _, _, hs5⟩ := hH
  clear hW5 h hsame hT hK hz H
  have hkv := kindV_in hk
  have mm1 := mLook hk
  have mm2 := mFits hk
  have mm3 := eFits hk
  have fl : ∀ (w : World), (Instr.field 192 (.agg #[.string (wordK e.kind), .int .i64 (kidsK e.kind)]) 1).run Tryz.prog w = .ok (.int .i64 (kidsK e.kind)) w := fun w => by kernel_rfl
  go_enter Tryz.func125, Tryz.ntmps125
  go_wp2_with (fail)
  refine (kindOf _ _).mono ?_
  rintro x w1 ⟨rfl, rfl⟩
  rw [hkv]
  clear hkv
  go_wp2_with (fail)
  rw [unhide HW5]
  clear HW5
  go_region_held3 (fun w2 => w2.cell? ⟨w.heap.size, 0, none⟩ = some (.int .i64 e.kind) ∧ w2.cell? ⟨w.heap.size, 1, none⟩ = some (.int .i64 e.num) ∧ w2.cell? ⟨w.heap.size, 2, none⟩ = some (.string e.meter) ∧ w2.cell? ⟨w.heap.size, 3, none⟩ = some (.slice ka e.kids.length kc) ∧ w2.cell? ⟨w.heap.size, 4, none⟩ = some (.slice ta e.tiers.length tc)) (go_keep)
    (first | (go_at_call 262; refine (Kinds.look (wordK e.kind) (kidsK e.kind) _).mono ?_; rintro x w6 ⟨rfl, hb6⟩; have hB6 : Below W5.heap.size W5 w6 := ⟨hb6.os, hb6.tape, hb6.output, hb6.size, hb6.block⟩; clear hb6; have q0 := (hB6.cell (p := ⟨w.heap.size, 0, none⟩) hs5).trans g0; have q1 := (hB6.cell (p := ⟨w.heap.size, 1, none⟩) hs5).trans g1; have q2 := (hB6.cell (p := ⟨w.heap.size, 2, none⟩) hs5).trans g2; have q3 := (hB6.cell (p := ⟨w.heap.size, 3, none⟩) hs5).trans g3; have q4 := (hB6.cell (p := ⟨w.heap.size, 4, none⟩) hs5).trans g4) | (refine (fitsI hk e.num e.meter ka ta e.kids.length kc tc e.tiers _ (unhide HZ).1 htl2 (((unhide HT5).kept (same_below hB6 (by omega))).toTR)).mono ?_; rintro x w7 ⟨rfl, hb7⟩; have hB7 : Below W5.heap.size W5 w7 := below_trans hB6 hb7; clear hb7; have r0 := (hB7.cell (p := ⟨w.heap.size, 0, none⟩) hs5).trans g0; have r1 := (hB7.cell (p := ⟨w.heap.size, 1, none⟩) hs5).trans g1; have r2 := (hB7.cell (p := ⟨w.heap.size, 2, none⟩) hs5).trans g2; have r3 := (hB7.cell (p := ⟨w.heap.size, 3, none⟩) hs5).trans g3; have r4 := (hB7.cell (p := ⟨w.heap.size, 4, none⟩) hs5).trans g4))
  have HH7 := hide ((unhide HH).kept hB7 hpb)
  have r3' := r3
  clear hB7 hB6 q0 q1 q2 q3 q4 r0 r1 r2 r4 r3 g0 g1 g2 g3 g4 HH mm1 mm2 mm3 fl HT5
  have r3 := r3'
  clear r3'
  cases hfit : fitsB e.kind e.num e.meter e.tiers
  · have HW := hide (unhide HNO hfit)
    go_wp2_with (fail)
    go_ret
    exact ⟨_, _, rfl, unhide HW, (unhide HH7).cell, (unhide HH7).frozen, (unhide HH7).grown⟩
  · have HND : Hid (nodeE e = true) := hide (by unfold nodeE; rw [nodeB_fits (unhide HQ), hfit])
    have HK0 : Hid (KidsOk e depth m 0 (m - 1)) := hide ⟨by simp [cntL], by omega, rfl, by simp [depL]; omega⟩
    have HWK : Hid (∀ k, k < e.kids.length → wt (e.kids.getD k E0) ≤ 1048576) := hide (fun k hk => by have := wt_at hk; omega)
    clear HNO hfit
    go_wp2_with (fail)
    go_loopw [46] (fun i wr => ∃ (k : Nat) (mk : Int), k ≤ e.kids.length ∧ i = .int .i64 k ∧ Hid (KidsOk e depth m k mk) ∧ Hid (wr.cell? ⟨pb, 0, none⟩ = some (.int .i64 mk)) ∧ Hid (wr.frozen? ⟨pb, 0, none⟩ = false) ∧ Hid (w.grownBy wr (some pb))) (fun i _ => e.kids.length - (intOf i).toNat)
    case atStart => exact ⟨0, m - 1, Nat.zero_le _, rfl, HK0, hide (unhide HH7).cell, hide (unhide HH7).frozen, hide (unhide HH7).grown⟩
    case round =>
      obtain ⟨k, mk, hkk, rfl, hKO, hcp, hfp, hg⟩ := hrel
      clear r3 HH7
      by_cases hlt : k < e.kids.length
      · obtain ⟨b, o, rfl, k1, k2, hKA⟩ : ∃ b o, ka = some ⟨b, o, none⟩ ∧ KidsAt lo hi w d b o e.kids := by
          rcases unhide HK with h | h
          · rw [h] at hlt; simp at hlt
          · exact h
        obtain ⟨kv, tv, ⟨e0', e1', e2', e3', e4'⟩, hz, hes, htt⟩ := hKA k hlt
        obtain ⟨fa, fc, hfv, _⟩ := hes.form
        obtain ⟨xa, xc, hxv⟩ : ∃ a c, tv = .slice a (e.kids.getD k E0).tiers.length c := by
          rcases htt with ⟨h, a, c, rfl⟩ | ⟨b, o, cap, rfl, _⟩
          · rw [h]; exact ⟨_, _, rfl⟩
          · exact ⟨_, _, rfl⟩
        subst hfv hxv
        have hblk : ∀ j, lo ≤ j → j < hi → wr.heap[j]? = w.heap[j]? := fun j h1 h2 => (unhide hg).block j (by omega) (by simp; omega)
        have hbb := hblk b k1 k2
        have e0 := (World.cell?_of_block (w := w) (a := ⟨b, o + k * 5, none⟩) hbb).trans e0'
        have e1 := (World.cell?_of_block (w := w) (a := ⟨b, o + k * 5 + 1, none⟩) hbb).trans e1'
        have e2 := (World.cell?_of_block (w := w) (a := ⟨b, o + k * 5 + 2, none⟩) hbb).trans e2'
        have e3 := (World.cell?_of_block (w := w) (a := ⟨b, o + k * 5 + 3, none⟩) hbb).trans e3'
        have e4 := (World.cell?_of_block (w := w) (a := ⟨b, o + k * 5 + 4, none⟩) hbb).trans e4'
        have hsz := (unhide hg).size
        have HE : Hid (∀ ob, EV lo hi (wr.alloc ob) d (.agg #[.int .i64 (e.kids.getD k E0).kind, .int .i64 (e.kids.getD k E0).num, .string (e.kids.getD k E0).meter, .slice fa (e.kids.getD k E0).kids.length fc, .slice xa (e.kids.getD k E0).tiers.length xc]) (e.kids.getD k E0)) := hide (fun ob => by
          have hs : Same lo hi w (wr.alloc ob) := same_trans hblk (same_below (below_alloc _ _) (by omega))
          exact ⟨_, _, rfl, hz, hes.kept hs, htt.kept hs⟩)
        have HCP : Hid (∀ ob, (wr.alloc ob).cell? ⟨pb, 0, none⟩ = some (.int .i64 mk)) := hide (fun ob => ((below_alloc wr ob).cell (p := ⟨pb, 0, none⟩) (by simp; omega)).trans (unhide hcp))
        have HFP : Hid (∀ ob, (wr.alloc ob).frozen? ⟨pb, 0, none⟩ = false) := hide (fun ob => ((below_alloc wr ob).frozen (p := ⟨pb, 0, none⟩) (by simp; omega)).trans (unhide hfp))
        have HG : Hid (∀ ob w', (wr.alloc ob).grownBy w' (some pb) → w.grownBy w' (some pb)) := hide (fun ob w' h => by
          have h1 := unhide hg
          exact ⟨h.os.trans h1.os, h.tape.trans h1.tape, h.output.trans h1.output, Nat.le_trans h1.size (Nat.le_trans (by simp) h.size), fun j hj hne => ((h.block j (by simp; omega) hne).trans (Below.heap_alloc wr ob j (by omega))).trans (h1.block j hj hne)⟩)
        have HW' := hide (unhide HWK k hlt)
        have HNO := hide (fun m' hh => (unhide hKO).no (m' := m') hlt hh)
        have HYES := hide (fun m' hh => (unhide hKO).step (m' := m') hlt hh)
        have mk0 : 0 ≤ mk := (unhide hKO).2.1
        have mk1 : mk ≤ 40 := by have := (unhide hKO).1; omega
        clear e0' e1' e2' e3' e4' hz hes htt hblk hbb hcp hfp hg hKO hKA
        generalize e.kids.getD k E0 = f at *
        generalize f.kind = fk at *
        generalize f.num = fn at *
        generalize f.meter = fm at *
        generalize f.kids.length = fkn at *
        generalize f.tiers.length = ftn at *
        go_wp2_with (fail)
        refine (unhide HO (fun h => by rw [h] at hlt; simp at hlt) lo hi pb _ f (depth - 1) mk _ (unhide HE _) hhi (by simp; omega) (unhide HW') (by omega) (by omega) mk0 mk1 (unhide HCP _) (unhide HFP _)).mono ?_
        rintro x w8 ⟨r, m', rfl, hwk, hc8, hf8, hg8⟩
        have HC8 := hide hc8
        have HF8 := hide hf8
        have HG8 := hide (unhide HG _ _ hg8)
        clear hc8 hf8 hg8 e0 e1 e2 e3 e4 HE HCP HFP HG
        cases r
        · have HW := hide (unhide HNO m' hwk)
          go_wp2_with (fail)
          go_ret
          exact ⟨_, _, rfl, unhide HW, unhide HC8, unhide HF8, unhide HG8⟩
        · have HS := hide (unhide HYES m' hwk)
          go_wp2_with (fail)
          refine ⟨⟨_, _, _, _, _, _, _, _, _, _, _, _, _, ⟨k + 1, m', by omega, ?_, HS, HC8, HF8, HG8⟩, rfl⟩, ?_⟩
          · go_num
          · simp [intOf]; omega
      · obtain rfl : k = e.kids.length := by omega
        have HW := hide ((unhide hKO).done (unhide HND))
        go_wp2_with (fail)
        go_ret
        exact ⟨_, _, rfl, unhide HW, unhide hcp, unhide hfp, unhide hg⟩

theorem TL.form {lo hi : Nat} {W : World} {v : Value} {l : List T} (h : TL lo hi W v l) : ∃ a c, v = .slice a l.length c := by
  rcases h with ⟨rfl, a, c, rfl⟩ | ⟨b, o, cap, rfl, _⟩
  · exact ⟨_, _, rfl⟩
  · exact ⟨_, _, rfl⟩

theorem okW_step {d : Nat} (H : ∀ d', d = d' + 1 → OkW d') : OkW d := by
  rintro lo hi pb v e depth m w ⟨kv, tv, rfl, hz, hk, ht⟩ hhi hpb hw d1 d2 m1 m2 hc hf
  obtain ⟨ta, tc, rfl⟩ := ht.form
  obtain ⟨ka, kc, hkf, hkl⟩ := hk.form
  by_cases hh : ¬ (1 ≤ e.kind ∧ e.kind ≤ 10) ∨ depth < 1 ∨ m < 1
  · exact okW_head pb kv _ e depth m w hpb d1 d2 m1 m2 hc hf hh
  have hk10 : 1 ≤ e.kind ∧ e.kind ≤ 10 := by omega
  have hkl2 : e.kids.length ≤ 1048576 := by have := wt_eq e; have := wtL_len e.kids; omega
  by_cases hn : (e.kids.length : Int) = kidsK e.kind
  · cases d with
    | zero =>
      obtain ⟨h0, a, c, rfl⟩ := hk
      simp only [Value.slice.injEq] at hkf
      obtain ⟨rfl, hl0, rfl⟩ := hkf
      have := okW_rest (d := 0) lo hi pb a c ta tc e depth m w hhi hpb (by omega) d2 (by omega) m2 hc hf hk10 hw hn hz ht (fun h => absurd h0 h) (.inl h0)
      rw [← hl0] at this
      exact this
    | succ d =>
      rcases hk with ⟨h0, a, c, rfl⟩ | ⟨b, o, cap, rfl, _, k1, k2, hcs⟩
      · simp only [Value.slice.injEq] at hkf
        obtain ⟨rfl, hl0, rfl⟩ := hkf
        have := okW_rest (d := d) lo hi pb a c ta tc e depth m w hhi hpb (by omega) d2 (by omega) m2 hc hf hk10 hw hn hz ht (fun _ => H d rfl) (.inl h0)
        rw [← hl0] at this
        exact this
      · exact okW_rest (d := d) lo hi pb (some ⟨b, o, none⟩) cap ta tc e depth m w hhi hpb (by omega) d2 (by omega) m2 hc hf hk10 hw hn hz ht (fun _ => H d rfl) (.inr ⟨b, o, rfl, k1, k2, hcs⟩)
  · subst hkf
    exact okW_kids pb ka kc _ e depth m w hpb (by omega) d2 (by omega) m2 hc hf hk10 hkl2 hn

theorem okW_all : ∀ d, OkW d
  | 0 => okW_step (fun d' h => by omega)
  | d + 1 => okW_step (fun d' h => by
    have e : d' = d := by omega
    rw [e]; exact okW_all d)

theorem okE_W {e : Ex} {r : Bool} {m' : Int} (h : WOk e 8 40 r m') : okE e = r := by
  unfold okE
  cases r
  · have := h.2 rfl
    cases ha : allB e
    · rfl
    · by_cases h1 : cnt e ≤ 40
      · have h2 : ¬ dep e ≤ 8 := fun h2 => this ⟨ha, by omega, by omega⟩
        rw [decide_eq_false h2]; simp
      · rw [decide_eq_false h1]; simp
  · obtain ⟨h1, h2, h3, h4⟩ := h.1 rfl
    rw [h3, decide_eq_true (show cnt e ≤ 40 by omega), decide_eq_true (show dep e ≤ 8 by omega)]; rfl

set_option maxHeartbeats 800000 in
/-- impl.RuleOk -/
theorem okI (d lo hi : Nat) (v : Value) (e : Ex) (w : World) (h : EV lo hi w d v e) (hhi : hi ≤ w.heap.size) (hw : wt e ≤ 1048576) :
    Calls Tryz.prog 97 #[v] w fun x w' => x = .returned (.bool (okE e)) ∧ Below w.heap.size w w' := by
  have h' := h
  obtain ⟨kv, tv, rfl, hz, hk, ht⟩ := h
  obtain ⟨ta, tc, rfl⟩ := ht.form
  obtain ⟨ka, kc, rfl, _⟩ := hk.form
  have HE : Hid (∀ ob op, EV lo hi ((w.alloc ob).alloc op) d (.agg #[.int .i64 e.kind, .int .i64 e.num, .string e.meter, .slice ka e.kids.length kc, .slice ta e.tiers.length tc]) e) := hide (fun ob op => h'.kept (same_below (below2 w ob op) hhi))
  have HO : Hid (∀ r m', WOk e 8 40 r m' → okE e = r) := hide (fun r m' h => okE_W h)
  have HN : Hid (∀ ob, ((w.alloc ob).alloc (.cells #[.int .i64 40] 3)).cell? ⟨w.heap.size + 1, 0, none⟩ = some (.int .i64 40) ∧ ((w.alloc ob).alloc (.cells #[.int .i64 40] 3)).frozen? ⟨w.heap.size + 1, 0, none⟩ = false) := hide (fun ob => by
    have e1 := (MapKept.heap_alloc (w.alloc ob) (.cells #[.int .i64 40] 3)).1
    simp only [World.size_alloc] at e1
    simp only [World.cell?, World.frozen?]
    rw [e1]; simp)
  clear hz hk ht h'
  generalize okE e = r at *
  generalize e.kind = ek at *
  generalize e.num = en at *
  generalize e.meter = em at *
  generalize e.kids.length = kn at *
  generalize e.tiers.length = tn at *
  go_enter Tryz.func97, Tryz.ntmps97
  go_wp2_with (fail)
  refine (okW_all d lo hi (w.heap.size + 1) _ e 8 40 _ (unhide HE _ _) (by omega) (by simp) hw (by omega) (by omega) (by omega) (by omega) (unhide HN _).1 (unhide HN _).2).mono ?_
  rintro x w1 ⟨b, m', rfl, hwk, _, _, hg⟩
  have hr := unhide HO b m' hwk
  subst hr
  have HB : Hid (Below w.heap.size w w1) := hide ((below2 w _ _).grown hg (by simp; omega) (fun k e => by cases e; simp))
  clear hg hwk HE HN HO
  go_wp2_with (fail)
  go_ret
  exact ⟨rfl, unhide HB⟩
end Go.Proofs.YtnchgeiinkaefaaGreatDoor.Rule
end

section
/-
  The law on RuleOk.
-/
namespace Go.Proofs.YtnchgeiinkaefaaGreatDoor.Rule
set_option linter.unusedVariables false
open Go.RowKit Tiers

/-- the value of an expression, written out -/
abbrev exV (e : Ex) (ka : Option Addr) (kc : Nat) (ta : Option Addr) (tc : Nat) : Value := .agg #[.int .i64 e.kind, .int .i64 e.num, .string e.meter, .slice ka e.kids.length kc, .slice ta e.tiers.length tc]
theorem EV.form {lo hi : Nat} {W : World} {d : Nat} {v : Value} {e : Ex} (h : EV lo hi W d v e) : ∃ ka kc ta tc, v = exV e ka kc ta tc := by
  obtain ⟨kv, tv, rfl, hz, hk, ht⟩ := h
  obtain ⟨ta, tc, rfl⟩ := ht.form
  obtain ⟨ka, kc, rfl, _⟩ := hk.form
  exact ⟨_, _, _, _, rfl⟩
/-- a box that holds an expression -/
def Box (W : World) (B : Nat) (e : Ex) (ka : Option Addr) (kc : Nat) (ta : Option Addr) (tc : Nat) : Prop :=
  W.cell? ⟨B, 0, none⟩ = some (.int .i64 e.kind) ∧ W.cell? ⟨B, 1, none⟩ = some (.int .i64 e.num) ∧ W.cell? ⟨B, 2, none⟩ = some (.string e.meter) ∧ W.cell? ⟨B, 3, none⟩ = some (.slice ka e.kids.length kc) ∧ W.cell? ⟨B, 4, none⟩ = some (.slice ta e.tiers.length tc)
theorem Box.kept {W W' : World} {B : Nat} {e : Ex} {ka : Option Addr} {kc : Nat} {ta : Option Addr} {tc : Nat} (h : Box W B e ka kc ta tc) (hb : Below W.heap.size W W') : Box W' B e ka kc ta tc := by
  have hB := lt_of_cell h.1
  exact ⟨(hb.cell (p := ⟨B, 0, none⟩) hB).trans h.1, (hb.cell (p := ⟨B, 1, none⟩) hB).trans h.2.1, (hb.cell (p := ⟨B, 2, none⟩) hB).trans h.2.2.1, (hb.cell (p := ⟨B, 3, none⟩) hB).trans h.2.2.2.1, (hb.cell (p := ⟨B, 4, none⟩) hB).trans h.2.2.2.2⟩
theorem Box.new (w : World) (e : Ex) (ka : Option Addr) (kc : Nat) (ta : Option Addr) (tc : Nat) (t : TypeId) : Box (w.alloc (.cells #[.int .i64 e.kind, .int .i64 e.num, .string e.meter, .slice ka e.kids.length kc, .slice ta e.tiers.length tc] t)) w.heap.size e ka kc ta tc := new5 w _ _ _ _ _ t
theorem keptE {lo hi : Nat} {W W' : World} {d : Nat} {v : Value} {e : Ex} (h : EV lo hi W d v e) (hh : hi ≤ W.heap.size) (hb : Below W.heap.size W W') : EV lo hi W' d v e := h.kept (same_below hb hh)

end Go.Proofs.YtnchgeiinkaefaaGreatDoor.Rule
end

section
/-
  What a tariff comes to: a relation; no program in it.
-/
namespace Go.Proofs.YtnchgeiinkaefaaGreatDoor.Rule
set_option linter.unusedVariables false
open Tiers (stepV stepB)
open Kinds (kidsK)
open Coin (okB addV addB timesV fitB partV partB)

def pairV (k a b : Int) : Int := if k = 3 then addV a b else if k = 4 then addV a (-b) else if k = 5 then timesV a b else if k = 7 then (if b < a then b else a) else (if b < a then a else b)
def pairB (k a b : Int) : Bool := if k = 3 then addB a b else if k = 4 then addB a (-b) else if k = 5 then fitB a b else true
/-- the kid to be run behind those that have these values -/
def nextM (k : Int) (vs : List Int) : Option Nat :=
  if k = 9 then (if vs.length = 0 then some 0 else if vs.length = 1 then (if 0 < vs.getD 0 0 then some 1 else some 2) else none)
  else if (vs.length : Int) < kidsK k then some vs.length else none
def valV (us : List Uses.U) (e : Ex) (vs : List Int) : Int :=
  if e.kind = 1 then e.num else if e.kind = 2 then Uses.ofV e.meter us else if e.kind = 6 then partV (vs.getD 0 0) e.num 10000
  else if e.kind = 9 then vs.getD 1 0 else if e.kind = 10 then stepV e.tiers (vs.getD 0 0) else pairV e.kind (vs.getD 0 0) (vs.getD 1 0)
def valB (us : List Uses.U) (e : Ex) (vs : List Int) : Bool :=
  if e.kind = 1 then true else if e.kind = 2 then okB (Uses.ofV e.meter us) else if e.kind = 6 then partB (vs.getD 0 0) e.num 10000
  else if e.kind = 9 then true else if e.kind = 10 then stepB e.tiers (vs.getD 0 0) else pairB e.kind (vs.getD 0 0) (vs.getD 1 0)

mutual
/-- with so much fuel an expression comes to: a value, a code, the fuel that is left -/
inductive Ev (us : List Uses.U) : Ex → Nat → Int → Nat → Nat → Prop where
  | out (e : Ex) : Ev us e 0 0 2 0
  | go {e : Ex} {l : Nat} {v : Int} {c l' : Nat} (h : Rest us e [] l v c l') : Ev us e (l + 1) v c l'
/-- .. whose first kids to be run came to these values -/
inductive Rest (us : List Uses.U) : Ex → List Int → Nat → Int → Nat → Nat → Prop where
  | kid {e : Ex} {vs : List Int} {l i : Nat} {v : Int} {l' : Nat} {r : Int} {c l'' : Nat} (hn : nextM e.kind vs = some i) (h : Ev us (e.kids.getD i E0) l v 0 l') (ho : okB v = true) (hl : l' ≤ l) (k : Rest us e (vs ++ [v]) l' r c l'') : Rest us e vs l r c l''
  | bad {e : Ex} {vs : List Int} {l i : Nat} {v : Int} {c l' : Nat} (hn : nextM e.kind vs = some i) (h : Ev us (e.kids.getD i E0) l v c l') (hc : c ≠ 0) (hl : l' ≤ l) : Rest us e vs l 0 c l'
  | val {e : Ex} {vs : List Int} {l : Nat} (hn : nextM e.kind vs = none) (hv : valB us e vs = true) : Rest us e vs l (valV us e vs) 0 l
  | over {e : Ex} {vs : List Int} {l : Nat} (hn : nextM e.kind vs = none) (hv : valB us e vs = false) : Rest us e vs l 0 1 l
end

theorem Ev.nought {us : List Uses.U} {e : Ex} {v : Int} {c l' : Nat} (h : Ev us e 0 v c l') : c = 2 ∧ l' = 0 := by
  cases h; exact ⟨rfl, rfl⟩
theorem Ev.more {us : List Uses.U} {e : Ex} {l : Nat} {v : Int} {c l' : Nat} (h : Ev us e (l + 1) v c l') : Rest us e [] l v c l' := by
  cases h; assumption
/-- what the rest is if a kid is to be run -/
theorem Rest.run {us : List Uses.U} {e : Ex} {vs : List Int} {l i : Nat} {r : Int} {c l'' : Nat} (h : Rest us e vs l r c l'') (hn : nextM e.kind vs = some i) :
    (∃ v l', Ev us (e.kids.getD i E0) l v 0 l' ∧ okB v = true ∧ l' ≤ l ∧ Rest us e (vs ++ [v]) l' r c l'') ∨ (∃ v, Ev us (e.kids.getD i E0) l v c l'' ∧ c ≠ 0 ∧ l'' ≤ l) := by
  cases h with
  | kid hn' h ho hl k => rw [hn] at hn'; cases hn'; exact .inl ⟨_, _, h, ho, hl, k⟩
  | bad hn' h hc hl => rw [hn] at hn'; cases hn'; exact .inr ⟨_, h, hc, hl⟩
  | val hn' _ => rw [hn] at hn'; cases hn'
  | over hn' _ => rw [hn] at hn'; cases hn'
theorem Rest.yes {us : List Uses.U} {e : Ex} {vs : List Int} {l : Nat} {r : Int} {c l'' : Nat} (h : Rest us e vs l r c l'') (hn : nextM e.kind vs = none) (hv : valB us e vs = true) : r = valV us e vs ∧ c = 0 ∧ l'' = l := by
  cases h with
  | kid hn' => rw [hn] at hn'; cases hn'
  | bad hn' => rw [hn] at hn'; cases hn'
  | val => exact ⟨rfl, rfl, rfl⟩
  | over _ hv' => rw [hv] at hv'; cases hv'
theorem Rest.no {us : List Uses.U} {e : Ex} {vs : List Int} {l : Nat} {r : Int} {c l'' : Nat} (h : Rest us e vs l r c l'') (hn : nextM e.kind vs = none) (hv : valB us e vs = false) : c = 1 ∧ l'' = l := by
  cases h with
  | kid hn' => rw [hn] at hn'; cases hn'
  | bad hn' => rw [hn] at hn'; cases hn'
  | val _ hv' => rw [hv] at hv'; cases hv'
  | over => exact ⟨rfl, rfl⟩

theorem pair_bd {k a b : Int} (ha : okB a = true) (hb : okB b = true) (h : pairB k a b = true) : okB (pairV k a b) = true := by
  unfold pairB at h
  unfold pairV
  split
  · rename_i h3; rw [if_pos h3] at h; rw [Coin.addV_yes h]; exact (Tiers.addB_parts h).2.2
  rename_i h3; rw [if_neg h3] at h
  split
  · rename_i h4; rw [if_pos h4] at h; rw [Coin.addV_yes h]; exact (Tiers.addB_parts h).2.2
  rename_i h4; rw [if_neg h4] at h
  split
  · rename_i h5; rw [if_pos h5] at h; rw [Coin.timesV_yes h]; exact Coin.okB_true (Coin.fit_ok h).2.2
  split <;> split <;> assumption
theorem node_parts {e : Ex} (h : nodeE e = true) : 1 ≤ e.kind ∧ e.kind ≤ 10 ∧ (e.kids.length : Int) = kidsK e.kind ∧ fitsB e.kind e.num e.meter e.tiers = true := by
  unfold nodeE nodeB at h
  simp only [Bool.and_eq_true, decide_eq_true_eq] at h
  exact ⟨h.1.1, h.1.2.1, h.1.2.2, h.2⟩
theorem all_kid {e : Ex} {i : Nat} (h : allB e = true) (hi : i < e.kids.length) : allB (e.kids.getD i E0) = true := by
  rw [allB_eq] at h
  simp only [Bool.and_eq_true] at h
  have h2 := h.2
  have : allL (e.kids.take (i + 1)) = true := by
    cases hh : allL (e.kids.take (i + 1))
    · rw [allL_false hh] at h2; cases h2
    · rfl
  rw [allL_take hi] at this
  simp only [Bool.and_eq_true] at this
  exact this.2
theorem all_node {e : Ex} (h : allB e = true) : nodeE e = true := by
  rw [allB_eq] at h; simp only [Bool.and_eq_true] at h; exact h.1
theorem num_bd {e : Ex} (h : nodeE e = true) (hk : e.kind = 1) : okB e.num = true := by
  have := (node_parts h).2.2.2
  unfold fitsB at this
  rw [if_pos hk] at this
  simp only [Bool.and_eq_true, decide_eq_true_eq] at this
  exact Coin.okB_true (by omega)
theorem wt_kid {e : Ex} {i : Nat} (hi : i < e.kids.length) (hw : wt e ≤ 1048576) : wt (e.kids.getD i E0) ≤ 1048576 := by
  have := wt_at hi
  rw [wt_eq] at hw; omega
end Go.Proofs.YtnchgeiinkaefaaGreatDoor.Rule
end

section
/-
  What a tariff comes to does not hang on the order of meters; no program in it.
-/
namespace Go.Proofs.YtnchgeiinkaefaaGreatDoor.Rule
set_option linter.unusedVariables false

theorem val_congr {us us' : List Uses.U} (h : ∀ m, Uses.ofV m us = Uses.ofV m us') (e : Ex) (vs : List Int) : valV us e vs = valV us' e vs ∧ valB us e vs = valB us' e vs := by
  unfold valV valB; rw [h e.meter]; exact ⟨rfl, rfl⟩
mutual
theorem Ev.congr {us us' : List Uses.U} (h : ∀ m, Uses.ofV m us = Uses.ofV m us') {e : Ex} {l : Nat} {v : Int} {c l' : Nat} : Ev us e l v c l' → Ev us' e l v c l'
  | .out e => .out e
  | .go k => .go (Rest.congr h k)
theorem Rest.congr {us us' : List Uses.U} (h : ∀ m, Uses.ofV m us = Uses.ofV m us') {e : Ex} {vs : List Int} {l : Nat} {v : Int} {c l' : Nat} : Rest us e vs l v c l' → Rest us' e vs l v c l'
  | .kid hn k ho hl r => .kid hn (Ev.congr h k) ho hl (Rest.congr h r)
  | .bad hn k hc hl => .bad hn (Ev.congr h k) hc hl
  | .val hn hv => by rw [(val_congr h e vs).1]; exact .val hn (by rw [← (val_congr h e vs).2]; exact hv)
  | .over hn hv => .over hn (by rw [← (val_congr h e vs).2]; exact hv)
end
end Go.Proofs.YtnchgeiinkaefaaGreatDoor.Rule
end

section
/-
  spec's run of a tariff: over, calc.
-/
namespace Go.Proofs.YtnchgeiinkaefaaGreatDoor.Rule
set_option linter.unusedVariables false
open Go.RowKit Tiers
open Kinds (kidsK)
open Coin (okB addV addB timesV fitB partV partB)

/-- the run that block P holds -/
def RunC (W : World) (P : Nat) (uv : Value) (l c : Nat) : Prop := W.cell? ⟨P, 0, none⟩ = some uv ∧ W.cell? ⟨P, 1, none⟩ = some (.int .i64 (l : Int)) ∧ W.cell? ⟨P, 2, none⟩ = some (.int .i64 (c : Int)) ∧ W.frozen? ⟨P, 1, none⟩ = false ∧ W.frozen? ⟨P, 2, none⟩ = false
theorem RunC.lt {W : World} {P : Nat} {uv : Value} {l c : Nat} (h : RunC W P uv l c) : P < W.heap.size := lt_of_cell h.1
theorem RunC.kept {W W' : World} {P : Nat} {uv : Value} {l c : Nat} (h : RunC W P uv l c) (hb : Below W.heap.size W W') : RunC W' P uv l c := by
  have hP := h.lt
  exact ⟨(hb.cell (p := ⟨P, 0, none⟩) hP).trans h.1, (hb.cell (p := ⟨P, 1, none⟩) hP).trans h.2.1, (hb.cell (p := ⟨P, 2, none⟩) hP).trans h.2.2.1, (hb.frozen (p := ⟨P, 1, none⟩) hP).trans h.2.2.2.1, (hb.frozen (p := ⟨P, 2, none⟩) hP).trans h.2.2.2.2⟩
theorem RunC.left {W : World} {P : Nat} {uv : Value} {l c : Nat} (h : RunC W P uv l c) (l' : Nat) : RunC (W.setCell ⟨P, 1, none⟩ (.int .i64 (l' : Int))) P uv l' c := by
  obtain ⟨h0, h1, h2, f1, f2⟩ := h
  refine ⟨?_, World.cell?_setCell_same _ _ _ h1, ?_, by simpa [World.frozen?_setCell] using f1, by simpa [World.frozen?_setCell] using f2⟩
  · rw [World.cell?_setCell_other _ _ _ _ (by simp)]; exact h0
  · rw [World.cell?_setCell_other _ _ _ _ (by simp)]; exact h2
theorem RunC.code {W : World} {P : Nat} {uv : Value} {l c : Nat} (h : RunC W P uv l c) (c' : Nat) : RunC (W.setCell ⟨P, 2, none⟩ (.int .i64 (c' : Int))) P uv l c' := by
  obtain ⟨h0, h1, h2, f1, f2⟩ := h
  refine ⟨?_, ?_, World.cell?_setCell_same _ _ _ h2, by simpa [World.frozen?_setCell] using f1, by simpa [World.frozen?_setCell] using f2⟩
  · rw [World.cell?_setCell_other _ _ _ _ (by simp)]; exact h0
  · rw [World.cell?_setCell_other _ _ _ _ (by simp)]; exact h1
theorem grown_set (W : World) (P o : Nat) (u : Value) : W.grownBy (W.setCell ⟨P, o, none⟩ u) (some P) :=
  ⟨rfl, rfl, rfl, by simp, fun j hj hne => Below.heap_setCell W ⟨P, o, none⟩ u j (by simpa using Ne.symm (fun h => hne (by rw [h])))⟩

/-- the world behind 'over' -/
def overW (W : World) (P : Nat) (ok : Bool) : World := if ok = true then W else W.setCell ⟨P, 2, none⟩ (.int .i64 1)
def overC (ok : Bool) : Nat := if ok = true then 0 else 1
theorem RunC.over {W : World} {P : Nat} {uv : Value} {l : Nat} (h : RunC W P uv l 0) (ok : Bool) : RunC (overW W P ok) P uv l (overC ok) := by
  cases ok
  · exact h.code 1
  · exact h
theorem grown_over (W : World) (P : Nat) (ok : Bool) : W.grownBy (overW W P ok) (some P) := by
  cases ok
  · exact grown_set _ _ _ _
  · exact ⟨rfl, rfl, rfl, Nat.le_refl _, fun _ _ _ => rfl⟩

theorem overS (P : Nat) (uv : Value) (l : Nat) (n : Int) (ok : Bool) (w : World) (h : RunC w P uv l 0) :
    Calls Tryz.prog 88 #[.pointer (some ⟨P, 0, none⟩), .int .i64 n, .bool ok] w fun x w' => x = .returned (.int .i64 n) ∧ w' = overW w P ok := by
  obtain ⟨h0, h1, h2, f1, f2⟩ := h
  cases ok
  · go_enter Tryz.func88, Tryz.ntmps88
    go_wp2
    go_ret
    exact ⟨rfl, rfl⟩
  · go_enter Tryz.func88, Tryz.ntmps88
    go_wp2
    go_ret
    exact ⟨rfl, rfl⟩

theorem pair_cases {k : Int} (h1 : 1 ≤ k ∧ k ≤ 10) (h2 : k ≠ 1) (h3 : k ≠ 2) (h4 : k ≠ 6) (h5 : k ≠ 9) (h6 : k ≠ 10) : k = 3 ∨ k = 4 ∨ k = 5 ∨ k = 7 ∨ k = 8 := by omega

set_option maxHeartbeats 1600000 in
theorem calcS (P : Nat) (uv : Value) (l : Nat) (k a b : Int) (w : World) (h : RunC w P uv l 0) (hk : k = 3 ∨ k = 4 ∨ k = 5 ∨ k = 7 ∨ k = 8) (hb : okB b = true) :
    Calls Tryz.prog 90 #[.pointer (some ⟨P, 0, none⟩), .int .i64 k, .int .i64 a, .int .i64 b] w fun x w' => x = .returned (.int .i64 (pairV k a b)) ∧ w' = overW w P (pairB k a b) := by
  obtain ⟨h0, h1, h2, f1, f2⟩ := h
  obtain ⟨b1, b2⟩ := okB_bd hb
  clear hb
  rcases hk with rfl | rfl | rfl | rfl | rfl
  · have e1 : pairV 3 a b = addV a b := rfl
    have e2 : pairB 3 a b = addB a b := rfl
    rw [e1, e2]
    clear e1 e2
    cases hp : addB a b
    all_goals
      go_enter Tryz.func90, Tryz.ntmps90
      go_wp2_with (go_at_call 114; refine (Coin.addS _ _ _).mono ?_; rintro e w' ⟨rfl, rfl⟩)
      go_ret
      exact ⟨rfl, rfl⟩
  · have e1 : pairV 4 a b = addV a (-b) := rfl
    have e2 : pairB 4 a b = addB a (-b) := rfl
    rw [e1, e2]
    clear e1 e2
    cases hp : addB a (-b)
    all_goals
      go_enter Tryz.func90, Tryz.ntmps90
      go_wp2_with (go_at_call 114; refine (Coin.addS _ _ _).mono ?_; rintro e w' ⟨rfl, rfl⟩)
      go_ret
      exact ⟨rfl, rfl⟩
  · have e1 : pairV 5 a b = timesV a b := rfl
    have e2 : pairB 5 a b = fitB a b := rfl
    rw [e1, e2]
    clear e1 e2
    cases hp : fitB a b
    all_goals
      go_enter Tryz.func90, Tryz.ntmps90
      go_wp2_with (go_at_call 55; refine (Coin.timesS _ _ _).mono ?_; rintro e w' ⟨rfl, rfl⟩)
      go_ret
      exact ⟨rfl, rfl⟩
  · have e2 : pairB 7 a b = true := rfl
    rw [e2]
    by_cases hlt : b < a
    · have e1 : pairV 7 a b = b := by show (if b < a then b else a) = b; rw [if_pos hlt]
      rw [e1]
      clear e1 e2
      have hd : decide (b < a) = true := decide_eq_true hlt
      go_enter Tryz.func90, Tryz.ntmps90
      go_wp2
      go_ret
      exact ⟨rfl, rfl⟩
    · have e1 : pairV 7 a b = a := by show (if b < a then b else a) = a; rw [if_neg hlt]
      rw [e1]
      clear e1 e2
      have hd : decide (b < a) = false := decide_eq_false hlt
      go_enter Tryz.func90, Tryz.ntmps90
      go_wp2
      go_ret
      exact ⟨rfl, rfl⟩
  · have e2 : pairB 8 a b = true := rfl
    rw [e2]
    by_cases hlt : b < a
    · have e1 : pairV 8 a b = a := by show (if b < a then a else b) = a; rw [if_pos hlt]
      rw [e1]
      clear e1 e2
      have hd : decide (b < a) = true := decide_eq_true hlt
      go_enter Tryz.func90, Tryz.ntmps90
      go_wp2
      go_ret
      exact ⟨rfl, rfl⟩
    · have e1 : pairV 8 a b = b := by show (if b < a then a else b) = b; rw [if_neg hlt]
      rw [e1]
      clear e1 e2
      have hd : decide (b < a) = false := decide_eq_false hlt
      go_enter Tryz.func90, Tryz.ntmps90
      go_wp2
      go_ret
      exact ⟨rfl, rfl⟩
end Go.Proofs.YtnchgeiinkaefaaGreatDoor.Rule
end

section
/-
  spec's run of a tariff: eval, where no kid is run.
-/
namespace Go.Proofs.YtnchgeiinkaefaaGreatDoor.Rule
set_option linter.unusedVariables false
open Go.RowKit Tiers
open Kinds (kidsK)
open Coin (okB addV addB timesV fitB partV partB)
open Draw (grown_trans grown_none grown_of_below below_of)

/-- what eval leaves -/
def EvP (us : List Uses.U) (e : Ex) (l : Nat) (w : World) (P : Nat) (uv : Value) (x : Ending) (w' : World) : Prop :=
  ∃ (n n' : Int) (c l' : Nat), x = .returned (.int .i64 n) ∧ Ev us e l n' c l' ∧ (c = 0 → n' = n ∧ okB n = true) ∧ l' ≤ l ∧ c ≤ 2 ∧ w.grownBy w' (some P) ∧ RunC w' P uv l' c
def EvalS (us : List Uses.U) (d : Nat) : Prop := ∀ (w0 : World) (uv : Value) (lo hi : Nat) (v : Value) (e : Ex) (l : Nat) (w : World), Uses.UR w0 uv us → EV lo hi w0 d v e → hi ≤ w0.heap.size → allB e = true → wt e ≤ 1048576 → l ≤ 1000 → Below w0.heap.size w0 w → RunC w w0.heap.size uv l 0 →
  Calls Tryz.prog 54 #[.pointer (some ⟨w0.heap.size, 0, none⟩), v] w fun x w' => EvP us e l w w0.heap.size uv x w'

set_option maxHeartbeats 1600000 in
set_option maxRecDepth 100000 in
theorem eval_out (us : List Uses.U) (P : Nat) (uv : Value) (e : Ex) (ka : Option Addr) (kc : Nat) (ta : Option Addr) (tc : Nat) (w : World) (hR : RunC w P uv 0 0) :
    Calls Tryz.prog 54 #[.pointer (some ⟨P, 0, none⟩), exV e ka kc ta tc] w fun x w' => EvP us e 0 w P uv x w' := by
  have hP := hR.lt
  have HR1 := hide hR
  have HE : Hid (Ev us e 0 0 2 0) := hide (Ev.out e)
  obtain ⟨h0, h1, h2, f1, f2⟩ := hR
  go_enter Tryz.func54, Tryz.ntmps54
  go_wp2
  go_ret
  exact ⟨0, 0, 2, 0, rfl, unhide HE, fun h => by omega, Nat.le_refl _, by omega, grown_trans (grown_set _ _ _ _) (World.grownBy_alloc _ _ _), ((unhide HR1).code 2).kept (below_alloc _ _)⟩

set_option maxHeartbeats 1600000 in
set_option maxRecDepth 100000 in
theorem eval_num (us : List Uses.U) (P : Nat) (uv : Value) (e : Ex) (ka : Option Addr) (kc : Nat) (ta : Option Addr) (tc : Nat) (l : Nat) (w : World) (hl : l ≤ 1000) (hR : RunC w P uv (l + 1) 0) (hk : e.kind = 1) (ho : okB e.num = true) :
    Calls Tryz.prog 54 #[.pointer (some ⟨P, 0, none⟩), exV e ka kc ta tc] w fun x w' => EvP us e (l + 1) w P uv x w' := by
  have hP := hR.lt
  have HR1 := hide hR
  have HE : Hid (Ev us e (l + 1) e.num 0 l) := hide (by
    have hn : nextM e.kind [] = none := by rw [hk]; rfl
    have hv : valB us e [] = true := by unfold valB; rw [if_pos hk]
    have := Ev.go (Rest.val (us := us) (l := l) hn hv)
    have e1 : valV us e [] = e.num := by unfold valV; rw [if_pos hk]
    rw [e1] at this; exact this)
  have HO := hide ho
  have hc : exV e ka kc ta tc = .agg #[.int .i64 1, .int .i64 e.num, .string e.meter, .slice ka e.kids.length kc, .slice ta e.tiers.length tc] := by unfold exV; rw [hk]
  rw [hc]
  obtain ⟨h0, h1, h2, f1, f2⟩ := hR
  have e1 : ((l + 1 : Nat) : Int) = (l : Int) + 1 := by omega
  rw [e1] at h1
  have e2 : ((l : Int) + 1 == 0) = false := beq_eq_false_iff_ne.2 (by omega)
  have e3 : (l : Int) + 1 - 1 = (l : Int) := by omega
  clear hk hc ho e1
  go_enter Tryz.func54, Tryz.ntmps54
  go_wp2
  go_ret
  exact ⟨_, _, 0, l, rfl, unhide HE, fun h => ⟨rfl, unhide HO⟩, by omega, by omega, grown_trans (grown_set _ _ _ _) (World.grownBy_alloc _ _ _), ((unhide HR1).left l).kept (below_alloc _ _)⟩

set_option maxHeartbeats 1600000 in
set_option maxRecDepth 100000 in
theorem eval_meter (us : List Uses.U) (w0 : World) (uv : Value) (e : Ex) (ka : Option Addr) (kc : Nat) (ta : Option Addr) (tc : Nat) (l : Nat) (w : World) (hl : l ≤ 1000) (hU : Uses.UR w0 uv us) (hul : us.length ≤ 1048576) (hB : Below w0.heap.size w0 w) (hR : RunC w w0.heap.size uv (l + 1) 0) (hk : e.kind = 2) :
    Calls Tryz.prog 54 #[.pointer (some ⟨w0.heap.size, 0, none⟩), exV e ka kc ta tc] w fun x w' => EvP us e (l + 1) w w0.heap.size uv x w' := by
  have hP := hR.lt
  have HB := hide hB
  have HU := hide hU
  have HR1 := hide hR
  have HE : Hid (Ev us e (l + 1) (if okB (Uses.ofV e.meter us) = true then Uses.ofV e.meter us else 0) (overC (okB (Uses.ofV e.meter us))) l) := hide (by
    have hn : nextM e.kind [] = none := by rw [hk]; rfl
    have hv : valB us e [] = okB (Uses.ofV e.meter us) := by unfold valB; rw [if_neg (by omega), if_pos hk]
    have e1 : valV us e [] = Uses.ofV e.meter us := by unfold valV; rw [if_neg (by omega), if_pos hk]
    cases hc : okB (Uses.ofV e.meter us)
    · exact Ev.go (Rest.over hn (hv.trans hc))
    · have := Ev.go (Rest.val (us := us) (l := l) hn (hv.trans hc))
      rw [e1] at this; exact this)
  have hc : exV e ka kc ta tc = .agg #[.int .i64 2, .int .i64 e.num, .string e.meter, .slice ka e.kids.length kc, .slice ta e.tiers.length tc] := by unfold exV; rw [hk]
  rw [hc]
  obtain ⟨W1, hW1⟩ : ∃ W1, (w.setCell ⟨w0.heap.size, 1, none⟩ (.int .i64 (l : Int))).alloc (.cells #[.int .i64 2, .int .i64 e.num, .string e.meter, .slice ka e.kids.length kc, .slice ta e.tiers.length tc] 77) = W1 := ⟨_, rfl⟩
  have HW1 := hide hW1
  have HG1 : Hid (w.grownBy W1 (some w0.heap.size)) := hide (by rw [← hW1]; exact grown_trans (grown_set _ _ _ _) (World.grownBy_alloc _ _ _))
  have HRW : Hid (RunC W1 w0.heap.size uv l 0) := hide (by rw [← hW1]; exact (hR.left l).kept (below_alloc _ _))
  have HU1 : Hid (Uses.UR W1.drew uv us) := hide (hU.kept (by
    have := below_of hB (Nat.le_refl _) (unhide HG1)
    exact ⟨this.os, this.tape, this.output, this.size, this.block⟩))
  have c0 := (unhide HRW).1
  have y1 := (unhide HRW).lt
  have c2 : W1.cell? ⟨w.heap.size, 2, none⟩ = some (.string e.meter) := by
    rw [← hW1]; have := (new5 (w.setCell ⟨w0.heap.size, 1, none⟩ (.int .i64 (l : Int))) (.int .i64 2) (.int .i64 e.num) (.string e.meter) (.slice ka e.kids.length kc) (.slice ta e.tiers.length tc) 77).2.2.1
    simpa using this
  have y2 : w.heap.size < W1.heap.size := by rw [← hW1]; simp
  obtain ⟨h0, h1, h2, f1, f2⟩ := hR
  have e1 : ((l + 1 : Nat) : Int) = (l : Int) + 1 := by omega
  rw [e1] at h1
  have e2 : ((l : Int) + 1 == 0) = false := beq_eq_false_iff_ne.2 (by omega)
  have e3 : (l : Int) + 1 - 1 = (l : Int) := by omega
  clear hk hc e1 hW1 hU hB
  go_enter Tryz.func54, Tryz.ntmps54
  go_wp2_with (fail)
  rw [unhide HW1]
  clear h0 h1 h2 f1 f2 e2 e3
  go_region_held3 (fun ww => ww.cell? ⟨w0.heap.size, 0, none⟩ = some uv ∧ ww.cell? ⟨w.heap.size, 2, none⟩ = some (.string e.meter)) (go_keep)
    (first | (go_at_call 87; refine (Uses.ofS _ us _ W1.drew (unhide HU1) hul).mono ?_; rintro x w2 ⟨rfl, hb2'⟩; have hb2 : Below W1.heap.size W1 w2 := ⟨hb2'.os, hb2'.tape, hb2'.output, hb2'.size, hb2'.block⟩; clear hb2'; have p0 := (hb2.cell (p := ⟨w0.heap.size, 0, none⟩) y1).trans c0; have p2 := (hb2.cell (p := ⟨w.heap.size, 2, none⟩) y2).trans c2))
  have HR2 := hide ((unhide HRW).kept hb2)
  have HG2 := hide (grown_trans (unhide HG1) (grown_of_below hb2 _))
  clear p0 p2 c0 c2 hb2 HU1 HRW HG1
  go_wp2_with (first | (go_at_call 23; refine (Coin.okS _ _).mono ?_; rintro x w3 ⟨rfl, rfl⟩))
  refine (overS w0.heap.size uv l _ _ _ (unhide HR2)).mono ?_
  rintro x w4 ⟨rfl, rfl⟩
  go_wp2_with (fail)
  go_ret
  exact ⟨_, _, _, l, rfl, unhide HE, fun h => by
    cases hc : okB (Uses.ofV e.meter us)
    · rw [hc] at h; cases h
    · exact ⟨rfl, rfl⟩, by omega, by cases okB (Uses.ofV e.meter us) <;> decide, grown_trans (unhide HG2) (grown_over _ _ _), (unhide HR2).over _⟩
end Go.Proofs.YtnchgeiinkaefaaGreatDoor.Rule
end
