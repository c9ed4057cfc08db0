/-
  impl.RuleStep: the iterator over steps, and the loop over it.
-/
import Derived.Test.YtdpefmjlmpjjbaaStepS
import Derived.Test.YtdpefmjlmpjjbaaRightI
import Derived.RangeFuncNested
import Derived.RangeFuncBound
import Derived.RangeFuncCalls
import Derived.RangeFuncLeaves
import Derived.Shelf.Abstract
import Derived.Shelf.RegionOpen
import Derived.OwnWalkIn
import Derived.TacticsInMore
import Derived.LoopNIn
import Derived.LoopIn
namespace Go.Proofs.Ytdpefmjlmpjjbaa.Tiers
set_option linter.unusedVariables false
open Go.RowKit Coin Go.Shelf

attribute [local go_sem] Oper.semAt_some

/-- what is yielded: how many units, and their price -/
def unitsF : List T → Int → List T
  | [], q => []
  | t :: ts, q => if q ≤ 0 then [] else (nOf t.1 q, t.2) :: unitsF ts (q - nOf t.1 q)
/-- all of it added up -/
def accF : List T → Int → Option Int
  | [], out => some out
  | p :: ps, out => if fitB p.1 p.2 = true ∧ addB out (p.1 * p.2) = true then accF ps (out + p.1 * p.2) else none
theorem acc_units : ∀ (l : List T) (q out : Int), accF (unitsF l q) out = stepF l q out
  | [], q, out => rfl
  | t :: ts, q, out => by
    unfold unitsF stepF
    by_cases h : q ≤ 0
    · rw [if_pos h, if_pos h]; rfl
    · rw [if_neg h, if_neg h, accF]
      simp only [acc_units ts]
theorem acc_append : ∀ (a b : List T) (out : Int), accF (a ++ b) out = (accF a out).bind (accF b)
  | [], b, out => rfl
  | p :: ps, b, out => by
    rw [List.cons_append, accF, accF]
    split
    · exact acc_append ps b _
    · rfl
theorem units_end (l : List T) {q : Int} (h : q ≤ 0) : unitsF l q = [] := by cases l <;> simp [unitsF, h]
theorem units_go {l : List T} {k : Nat} {q : Int} (hk : k < l.length) (hq : 0 < q) : unitsF (l.drop k) q = (nOf (l.getD k T0).1 q, (l.getD k T0).2) :: unitsF (l.drop (k + 1)) (q - nOf (l.getD k T0).1 q) := by
  rw [show l.drop k = l.getD k T0 :: l.drop (k + 1) from drop_at hk, unitsF, if_neg (by omega)]
theorem units_len : ∀ (l : List T) (q : Int), (unitsF l q).length ≤ l.length
  | [], q => by simp [unitsF]
  | t :: ts, q => by
    unfold unitsF
    split
    · simp
    · have := units_len ts (q - nOf t.1 q); simp; omega

theorem grown_alloc (w : World) (o : Obj) : w.grownBy (w.alloc o) none := ⟨rfl, rfl, rfl, by simp, fun j hj _ => Below.heap_alloc w o j hj⟩

set_option maxRecDepth 100000 in
set_option maxHeartbeats 2000000 in
/-- the closure that stepsOf hands out, for every loop body that keeps what lay below n0 -/
theorem steps1 (n : Nat) (hn : 1 ≤ n) (lp Bq Bt n0 b o cap : Nat) (l : List T) (q : Int) (hl : l.length ≤ 6) (q1 : -1000000000000000 ≤ q) (q2 : q ≤ 1000000000000000) (hb : b < n0) (hat : Hid (∀ k, k < l.length → 0 ≤ (l.getD k T0).1 ∧ (l.getD k T0).1 ≤ 1000000000)) (J Jx : List T → World → Prop)
    (W : World) (hn0 : n0 ≤ W.heap.size) (hJa : AbidesFrom W.heap.size J)
    (hY : ∀ pre x W1, J pre W1 → pre.length < l.length → YieldAt Fence.wide (n - 1) Try.prog lp #[.int .i64 x.1, .int .i64 x.2] W1 fun e W' =>
      (e = .returned (.bool true) ∧ J (pre ++ [x]) W' ∧ Below n0 W1 W') ∨ (e = .returned (.bool false) ∧ Jx (pre ++ [x]) W'))
    (hBq : W.cell? ⟨Bq, 0, none⟩ = some (.int .i64 q)) (hBt : W.cell? ⟨Bt, 0, none⟩ = some (.slice (some ⟨b, o, none⟩) l.length cap)) (hc : Hid (TC W b o l)) (h0 : J [] W) :
    CallsIn Fence.wide n Try.prog 92 #[.func (.yield lp) #[] #[], .pointer (some ⟨Bq, 0, none⟩), .pointer (some ⟨Bt, 0, none⟩)] W fun e W' => (∃ v, e = .returned v) ∧
      ((∃ ys, ys = unitsF l q ∧ J ys W') ∨ (∃ pre, pre <+: unitsF l q ∧ Jx pre W')) := by
  have HJ := hide hJa
  have HY := hide hY
  have H0 := hide h0
  clear hJa hY h0
  refine callsIn_of_wp Try.func92 rfl trivial ?_ rfl
  simp only [Try.ntmps92, List.size_toArray, List.length_cons, List.length_nil, Nat.reduceAdd, Nat.reduceSub, Array.replicate_succ, Array.replicate_zero, List.push_toArray, List.append_toArray, List.nil_append, List.cons_append]
  gi_wp2
  gi_loopw [4, 11] (fun t i wr => ∃ (k : Nat) (q' : Int) (pre : List T), k ≤ l.length ∧ i = .int .i64 k ∧ t = .int .i64 q' ∧ -1000000000000000 ≤ q' ∧ q' ≤ 1000000000000000 ∧ Hid (pre.length = k) ∧ Hid (unitsF l q = pre ++ unitsF (l.drop k) q') ∧ Hid (J pre wr) ∧ Hid (Below n0 W wr)) (fun _ i _ => l.length - (intOf i).toNat)
  case atStart => exact ⟨0, q, [], Nat.zero_le _, rfl, rfl, q1, q2, hide rfl, hide rfl, H0, hide (Below.refl _ _)⟩
  case round =>
    obtain ⟨k, q', pre, hk, rfl, rfl, p1, p2, hpl, hu, hJs, hnx⟩ := hrel
    by_cases hlt : k < l.length
    · obtain ⟨c0', c1'⟩ := (unhide hc).2 k hlt
      have c0 : wr.cell? ⟨b, o + k * 2, none⟩ = some (.int .i64 (l.getD k T0).1) := ((unhide hnx).cell (p := ⟨b, o + k * 2, none⟩) hb).trans c0'
      have c1 : wr.cell? ⟨b, o + k * 2 + 1, none⟩ = some (.int .i64 (l.getD k T0).2) := ((unhide hnx).cell (p := ⟨b, o + k * 2 + 1, none⟩) hb).trans c1'
      have hat' := unhide hat k hlt
      clear c0' c1'
      by_cases hpos : 0 < q'
      · have HG := hide (units_go (q := q') hlt hpos)
        generalize l.getD k T0 = t at *
        obtain ⟨x, y⟩ := t
        simp only at c0 c1 hat' HG
        obtain ⟨x1, x2⟩ := hat'
        by_cases hx : 0 < x ∧ x < q'
        · rw [nOf_small hx.1 hx.2] at HG
          have b0 : (x != 0) = true := bne_iff_ne.2 (by omega)
          obtain ⟨hx1, hx2⟩ := hx
          have hm : min q' x = x := by omega
          obtain ⟨fn, tmps, assign, body, hy, hR⟩ := unhide HY pre (x, y) (wr.alloc (.cells #[.int .i64 x, .int .i64 y] 56)) (unhide HJ pre wr _ none (unhide hJs) (grown_alloc _ _) (by simp)) (by have := unhide hpl; omega)
          dsimp only at hy
          have HR := hide hR
          clear hR
          gi_wp2
          refine (unhide HR).mono ?_
          rintro e W3 (⟨rfl, hJ3, hk3⟩ | ⟨rfl, hJx3⟩)
          · have HJ3 := hide hJ3
            have HK3 : Hid (Below n0 W W3) := hide (((unhide hnx).alloc (Nat.le_trans hn0 (unhide hnx).size) _).trans hk3)
            have HU : Hid (unitsF l q = (pre ++ [(x, y)]) ++ unitsF (l.drop (k + 1)) (q' - x)) := hide (by rw [unhide hu, unhide HG]; simp)
            have HL : Hid ((pre ++ [(x, y)]).length = k + 1) := hide (by have := unhide hpl; simp; omega)
            clear hJ3 hk3
            gi_wp2
            go_roundw
            case rel => exact ⟨k + 1, q' - x, pre ++ [(x, y)], by omega, by go_num, rfl, by omega, by omega, HL, HU, HJ3, HK3⟩
            case measure => simp [intOf]; omega
          · have HJ3 := hide hJx3
            clear hJx3
            gi_wp2
            refine bodyPost_ret (results_none rfl _ _ _) rfl ?_
            exact ⟨⟨_, rfl⟩, .inr ⟨_, ⟨unitsF (l.drop (k + 1)) (q' - x), by rw [unhide hu, unhide HG]; simp⟩, unhide HJ3⟩⟩
        · rw [nOf_all hx] at HG
          by_cases hx0 : x = 0
          · have b0 : (x != 0) = false := by simp [hx0]
            clear hx0 hx
            have hq0 : 0 ≤ q' := by omega
            obtain ⟨fn, tmps, assign, body, hy, hR⟩ := unhide HY pre (q', y) (wr.alloc (.cells #[.int .i64 x, .int .i64 y] 56)) (unhide HJ pre wr _ none (unhide hJs) (grown_alloc _ _) (by simp)) (by have := unhide hpl; omega)
            dsimp only at hy
            have HR := hide hR
            clear hR
            gi_wp2
            refine (unhide HR).mono ?_
            rintro e W3 (⟨rfl, hJ3, hk3⟩ | ⟨rfl, hJx3⟩)
            · have HJ3 := hide hJ3
              have HK3 : Hid (Below n0 W W3) := hide (((unhide hnx).alloc (Nat.le_trans hn0 (unhide hnx).size) _).trans hk3)
              have HU : Hid (unitsF l q = (pre ++ [(q', y)]) ++ unitsF (l.drop (k + 1)) (q' - q')) := hide (by rw [unhide hu, unhide HG]; simp)
              have HL : Hid ((pre ++ [(q', y)]).length = k + 1) := hide (by have := unhide hpl; simp; omega)
              clear hJ3 hk3
              gi_wp2
              go_roundw
              case rel => exact ⟨k + 1, q' - q', pre ++ [(q', y)], by omega, by go_num, by simp, by omega, by omega, HL, HU, HJ3, HK3⟩
              case measure => simp [intOf]; omega
            · have HJ3 := hide hJx3
              clear hJx3
              gi_wp2
              refine bodyPost_ret (results_none rfl _ _ _) rfl ?_
              exact ⟨⟨_, rfl⟩, .inr ⟨_, ⟨unitsF (l.drop (k + 1)) (q' - q'), by rw [unhide hu, unhide HG]; simp⟩, unhide HJ3⟩⟩
          · have b0 : (x != 0) = true := bne_iff_ne.2 hx0
            have hm : min q' x = q' := by omega
            have hx2 : q' ≤ x := by omega
            clear hx0 hx
            have hq0 : 0 ≤ q' := by omega
            obtain ⟨fn, tmps, assign, body, hy, hR⟩ := unhide HY pre (q', y) (wr.alloc (.cells #[.int .i64 x, .int .i64 y] 56)) (unhide HJ pre wr _ none (unhide hJs) (grown_alloc _ _) (by simp)) (by have := unhide hpl; omega)
            dsimp only at hy
            have HR := hide hR
            clear hR
            gi_wp2
            refine (unhide HR).mono ?_
            rintro e W3 (⟨rfl, hJ3, hk3⟩ | ⟨rfl, hJx3⟩)
            · have HJ3 := hide hJ3
              have HK3 : Hid (Below n0 W W3) := hide (((unhide hnx).alloc (Nat.le_trans hn0 (unhide hnx).size) _).trans hk3)
              have HU : Hid (unitsF l q = (pre ++ [(q', y)]) ++ unitsF (l.drop (k + 1)) (q' - q')) := hide (by rw [unhide hu, unhide HG]; simp)
              have HL : Hid ((pre ++ [(q', y)]).length = k + 1) := hide (by have := unhide hpl; simp; omega)
              clear hJ3 hk3
              gi_wp2
              go_roundw
              case rel => exact ⟨k + 1, q' - q', pre ++ [(q', y)], by omega, by go_num, by simp, by omega, by omega, HL, HU, HJ3, HK3⟩
              case measure => simp [intOf]; omega
            · have HJ3 := hide hJx3
              clear hJx3
              gi_wp2
              refine bodyPost_ret (results_none rfl _ _ _) rfl ?_
              exact ⟨⟨_, rfl⟩, .inr ⟨_, ⟨unitsF (l.drop (k + 1)) (q' - q'), by rw [unhide hu, unhide HG]; simp⟩, unhide HJ3⟩⟩
      · have hq' : q' ≤ 0 := by omega
        have HE : Hid (unitsF l q = pre) := hide (by rw [unhide hu, units_end _ hq']; simp)
        have HJ2 := fun o => hide (unhide HJ pre wr (wr.alloc o) none (unhide hJs) (grown_alloc _ _) (by simp))
        gi_wp2
        refine bodyPost_ret (results_none rfl _ _ _) rfl ?_
        exact ⟨⟨_, rfl⟩, .inl (by rw [unhide HE]; exact unhide (HJ2 _))⟩
    · have HE : Hid (unitsF l q = pre) := hide (by rw [unhide hu, List.drop_eq_nil_of_le (by omega)]; simp [unitsF])
      gi_wp2
      go_end0
      exact ⟨⟨_, rfl⟩, .inl ⟨_, (unhide HE).symm, unhide hJs⟩⟩

/-- what stepsOf hands out, as the loop over it wants it -/
theorem steps_stops (n : Nat) (hn : 1 ≤ n) (Bq Bt n0 b o cap : Nat) (l : List T) (q : Int) (hl : l.length ≤ 6) (q1 : -1000000000000000 ≤ q) (q2 : q ≤ 1000000000000000) (hb : b < n0) (hat : Hid (∀ k, k < l.length → 0 ≤ (l.getD k T0).1 ∧ (l.getD k T0).1 ≤ 1000000000))
    (w : World) (hBqs : Bq < w.heap.size) (hBts : Bt < w.heap.size) (hn0 : n0 ≤ w.heap.size)
    (hBq : w.cell? ⟨Bq, 0, none⟩ = some (.int .i64 q)) (hBt : w.cell? ⟨Bt, 0, none⟩ = some (.slice (some ⟨b, o, none⟩) l.length cap)) (hc : TC w b o l) :
    SeqStopsK Fence.wide n Try.prog 92 #[.pointer (some ⟨Bq, 0, none⟩), .pointer (some ⟨Bt, 0, none⟩)] (fun x : T => #[Value.int .i64 x.1, Value.int .i64 x.2]) (Below n0) (fun ys => ys = unitsF l q) (fun pre => pre <+: unitsF l q) l.length w :=
  fun lp J Jx W hW hJ _ hY h0 =>
    steps1 n hn lp Bq Bt n0 b o cap l q hl q1 q2 hb hat J Jx W (Nat.le_trans hn0 hW.size) hJ hY ((hW.cell (p := ⟨Bq, 0, none⟩) hBqs).trans hBq) ((hW.cell (p := ⟨Bt, 0, none⟩) hBts).trans hBt) (hide (hc.kept hW)) h0

/-- impl.stepsOf -/
theorem stepsOf (n : Nat) (v : Value) (hv : v.oneCell' = true) (q : Int) (w : World) :
    CallsIn Fence.wide n Try.prog 91 #[v, .int .i64 q] w fun e w' => e = .returned (.func (.func 92) #[] #[.pointer (some ⟨w.heap.size + 1, 0, none⟩), .pointer (some ⟨w.heap.size, 0, none⟩)]) ∧ w' = (w.alloc (.cells #[v] 24)).alloc (.cells #[.int .i64 q] 3) := by
  refine callsIn_of_wp Try.func91 rfl trivial ?_ rfl
  simp only [Try.ntmps91, List.size_toArray, List.length_cons, List.length_nil, Nat.reduceAdd, Nat.reduceSub, Array.replicate_succ, Array.replicate_zero, List.push_toArray, List.append_toArray, List.nil_append, List.cons_append]
  gi_wp2
  trace_state
  go_ret
  exact ⟨rfl, rfl⟩
end Go.Proofs.Ytdpefmjlmpjjbaa.Tiers
