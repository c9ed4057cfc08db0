/-
  impl.okWithin, impl.RuleOk.
-/
import Derived.Test.YtdpefmjlmpjjbaaOkS
import Derived.Test.YtdpefmjlmpjjbaaFits
import Derived.WideLaws
namespace Go.Proofs.Ytdpefmjlmpjjbaa.Rule
set_option linter.unusedVariables false
open Go.RowKit Tiers
open Kinds hiding hide unhide below_trans ext_toList

/-- which function 'fits' is -/
def fitsF (k : Int) : Nat := if k = 1 then 67 else if k = 2 then 70 else if k = 6 then 77 else if k = 10 then 85 else 63
theorem mFitsPair (s : ByteArray) (n : Int) (f : Value) (w : World) : (method 223 85 (.agg #[.string s, .int .i64 n, f]) "loop.example/scot/impl.fits").run Try.prog w = .ok (63, .agg #[.string s, .int .i64 n]) w := by kernel_rfl
theorem mFitsPart (s : ByteArray) (n : Int) (w : World) : (method 223 86 (.agg #[.string s, .int .i64 n]) "loop.example/scot/impl.fits").run Try.prog w = .ok (77, .agg #[.string s, .int .i64 n]) w := by kernel_rfl
theorem mFitsIf (s : ByteArray) (n : Int) (w : World) : (method 223 87 (.agg #[.string s, .int .i64 n]) "loop.example/scot/impl.fits").run Try.prog w = .ok (63, .agg #[.string s, .int .i64 n]) w := by kernel_rfl
theorem mFitsSteps (s : ByteArray) (n : Int) (w : World) : (method 223 88 (.agg #[.string s, .int .i64 n]) "loop.example/scot/impl.fits").run Try.prog w = .ok (85, .agg #[.string s, .int .i64 n]) w := by kernel_rfl
theorem mFitsNum (s : ByteArray) (n : Int) (w : World) : (method 223 81 (.agg #[.string s, .int .i64 n]) "loop.example/scot/impl.fits").run Try.prog w = .ok (67, .agg #[.string s, .int .i64 n]) w := by kernel_rfl
theorem mFitsMeter (s : ByteArray) (n : Int) (w : World) : (method 223 82 (.agg #[.string s, .int .i64 n]) "loop.example/scot/impl.fits").run Try.prog w = .ok (70, .agg #[.string s, .int .i64 n]) w := by kernel_rfl
theorem mFits {k : Int} (h : 1 ≤ k ∧ k ≤ 10) (w : World) : (method 223 (typeK k) (recK k) "loop.example/scot/impl.fits").run Try.prog w = .ok (fitsF k, lookV k) w := by
  rcases cases10 h with rfl | rfl | rfl | rfl | rfl | rfl | rfl | rfl | rfl | rfl
  · exact mFitsNum _ _ w
  · exact mFitsMeter _ _ w
  · exact mFitsPair _ _ _ w
  · exact mFitsPair _ _ _ w
  · exact mFitsPair _ _ _ w
  · exact mFitsPart _ _ w
  · exact mFitsPair _ _ _ w
  · exact mFitsPair _ _ _ w
  · exact mFitsIf _ _ w
  · exact mFitsSteps _ _ w
theorem eFits {k : Int} (h : 1 ≤ k ∧ k ≤ 10) (args : Array Value) (w : World) : (callFunc (fitsF k) args).run Try.prog w = .ok (.enter (fitsF k) args) w := by
  rcases cases10 h with rfl | rfl | rfl | rfl | rfl | rfl | rfl | rfl | rfl | rfl
  all_goals kernel_rfl
/-- the methods 'fits' -/
theorem fitsI {k : Int} (h : 1 ≤ k ∧ k ≤ 10) (n : Int) (m : ByteArray) (ka ta : Option Addr) (nk kc tc : Nat) (ts : List T) (w : World) (z1 : m.size ≤ maxLen) (z2 : ts.length ≤ 1048576) (hT : TR w (.slice ta ts.length tc) ts) :
    Calls Try.prog (fitsF k) #[lookV k, .agg #[.int .i64 k, .int .i64 n, .string m, .slice ka nk kc, .slice ta ts.length tc]] w fun e w' => e = .returned (.bool (fitsB k n m ts)) ∧ Below w.heap.size w w' := by
  have z3 : ts.length ≤ maxLen := by unfold maxLen; omega
  rcases cases10 h with rfl | rfl | rfl | rfl | rfl | rfl | rfl | rfl | rfl | rfl
  · exact fitsNum _ _ _ n m ka ta nk kc _ tc w z3
  · exact fitsMeter _ _ _ n m ka ta nk kc tc ts w z1 z3
  · exact fitsLook _ _ _ n m ka ta nk kc _ tc w z3
  · exact fitsLook _ _ _ n m ka ta nk kc _ tc w z3
  · exact fitsLook _ _ _ n m ka ta nk kc _ tc w z3
  · exact fitsPart _ _ _ n m ka ta nk kc _ tc w z3
  · exact fitsLook _ _ _ n m ka ta nk kc _ tc w z3
  · exact fitsLook _ _ _ n m ka ta nk kc _ tc w z3
  · exact fitsLook _ _ _ n m ka ta nk kc _ tc w z3
  · exact fitsSteps _ _ _ n m ka ta nk kc tc ts w z2 hT

/-- what okWithin tells: r, and what is left of m -/
def WOk (e : Ex) (depth m : Int) (r : Bool) (m' : Int) : Prop := (r = true → m' = m - cnt e ∧ 0 ≤ m' ∧ allB e = true ∧ (dep e : Int) ≤ depth) ∧ (r = false → ¬ (allB e = true ∧ (dep e : Int) ≤ depth ∧ (cnt e : Int) ≤ m))
def OkW (d : Nat) : Prop := ∀ (lo hi pb : Nat) (v : Value) (e : Ex) (depth m : Int) (w : World), EV lo hi w d v e → hi ≤ pb → pb < w.heap.size → wt e ≤ 1048576 → 0 ≤ depth → depth ≤ 8 → 0 ≤ m → m ≤ 40 → w.cell? ⟨pb, 0, none⟩ = some (.int .i64 m) → w.frozen? ⟨pb, 0, none⟩ = false →
  Calls Try.prog 20 #[v, .int .i64 depth, .pointer (some ⟨pb, 0, none⟩)] w fun x w' => ∃ (r : Bool) (m' : Int), x = .returned (.bool r) ∧ WOk e depth m r m' ∧ w'.cell? ⟨pb, 0, none⟩ = some (.int .i64 m') ∧ w'.frozen? ⟨pb, 0, none⟩ = false ∧ w.grownBy w' (some pb)

theorem cnt_pos (e : Ex) : 1 ≤ cnt e := by rw [cnt_eq]; omega
theorem dep_pos (e : Ex) : 1 ≤ dep e := by rw [dep_eq]; omega
theorem nodeE_in {e : Ex} (h : nodeE e = true) : 1 ≤ e.kind ∧ e.kind ≤ 10 ∧ (e.kids.length : Int) = kidsK e.kind ∧ fitsB e.kind e.num e.meter e.tiers = true := by
  unfold nodeE nodeB at h
  simp only [Bool.and_eq_true, decide_eq_true_eq] at h
  exact ⟨h.1.1, h.1.2.1, h.1.2.2, h.2⟩
theorem allB_node {e : Ex} (h : allB e = true) : nodeE e = true := by
  rw [allB_eq] at h; simp only [Bool.and_eq_true] at h; exact h.1
theorem after_set (w : World) (o : Obj) (pb : Nat) (u v : Value) (hpb : pb < w.heap.size) (hc : w.cell? ⟨pb, 0, none⟩ = some u) (hf : w.frozen? ⟨pb, 0, none⟩ = false) :
    ((w.setCell ⟨pb, 0, none⟩ v).alloc o).cell? ⟨pb, 0, none⟩ = some v ∧ ((w.setCell ⟨pb, 0, none⟩ v).alloc o).frozen? ⟨pb, 0, none⟩ = false ∧ w.grownBy ((w.setCell ⟨pb, 0, none⟩ v).alloc o) (some pb) := by
  refine ⟨?_, ?_, ⟨rfl, rfl, rfl, by simp, fun j hj hne => ?_⟩⟩
  · rw [(below_alloc _ o).cell (p := ⟨pb, 0, none⟩) (by simpa using hpb)]
    exact World.cell?_setCell_same _ _ _ hc
  · rw [(below_alloc _ o).frozen (p := ⟨pb, 0, none⟩) (by simpa using hpb), World.frozen?_setCell]
    exact hf
  · rw [Below.heap_alloc _ _ _ (by simpa using hj)]
    exact Below.heap_setCell _ ⟨pb, 0, none⟩ v j (by intro e; exact hne (by rw [e]))

set_option maxHeartbeats 1600000 in
theorem okW_head (pb : Nat) (kv tv : Value) (e : Ex) (depth m : Int) (w : World) (hpb : pb < w.heap.size) (d1 : 0 ≤ depth) (d2 : depth ≤ 8) (m1 : 0 ≤ m) (m2 : m ≤ 40) (hc : w.cell? ⟨pb, 0, none⟩ = some (.int .i64 m)) (hf : w.frozen? ⟨pb, 0, none⟩ = false)
    (h : ¬ (1 ≤ e.kind ∧ e.kind ≤ 10) ∨ depth < 1 ∨ m < 1) :
    Calls Try.prog 20 #[.agg #[.int .i64 e.kind, .int .i64 e.num, .string e.meter, kv, tv], .int .i64 depth, .pointer (some ⟨pb, 0, none⟩)] w fun x w' => ∃ (r : Bool) (m' : Int), x = .returned (.bool r) ∧ WOk e depth m r m' ∧ w'.cell? ⟨pb, 0, none⟩ = some (.int .i64 m') ∧ w'.frozen? ⟨pb, 0, none⟩ = false ∧ w.grownBy w' (some pb) := by
  have HW : Hid (WOk e depth m false (m - 1)) := hide ⟨fun h => (by cases h), fun _ ⟨a, b, c⟩ => by
    have := nodeE_in (allB_node a)
    have := cnt_pos e
    have := dep_pos e
    omega⟩
  have hne : ¬ w.heap.size = pb := by omega
  have hne' : ¬ pb = w.heap.size := by omega
  obtain ⟨x1, x2, x3⟩ := after_set w (.cells #[.int .i64 e.kind, .int .i64 e.num, .string e.meter, kv, tv] 26) pb _ (.int .i64 (m - 1)) hpb hc hf
  have HX1 := hide x1
  have HX2 := hide x2
  have HX3 := hide x3
  clear x1 x2 x3
  by_cases hk : 1 ≤ e.kind ∧ e.kind ≤ 10
  · have hkv := kindV_in hk
    by_cases hd : depth < 1
    · clear h
      go_enter Try.func20, Try.ntmps20
      go_wp2_with (fail)
      refine (kindOf _ _).mono ?_
      rintro x w1 ⟨rfl, rfl⟩
      rw [hkv]
      clear hkv
      go_wp2_with (fail)
      go_ret
      exact ⟨_, _, rfl, unhide HW, unhide HX1, unhide HX2, unhide HX3⟩
    · have hm : m - 1 < 0 := by omega
      clear h
      go_enter Try.func20, Try.ntmps20
      go_wp2_with (fail)
      refine (kindOf _ _).mono ?_
      rintro x w1 ⟨rfl, rfl⟩
      rw [hkv]
      clear hkv
      go_wp2_with (fail)
      go_ret
      exact ⟨_, _, rfl, unhide HW, unhide HX1, unhide HX2, unhide HX3⟩
  · have hkv := kindV_out hk
    clear h
    go_enter Try.func20, Try.ntmps20
    go_wp2_with (fail)
    refine (kindOf _ _).mono ?_
    rintro x w1 ⟨rfl, rfl⟩
    rw [hkv]
    clear hkv
    go_wp2_with (fail)
    go_ret
    exact ⟨_, _, rfl, unhide HW, unhide HX1, unhide HX2, unhide HX3⟩
end Go.Proofs.Ytdpefmjlmpjjbaa.Rule
