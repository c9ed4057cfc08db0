/-
  Texts of this proof laid together, in build order; each says of itself what it holds.
-/
import Derived.Test.YtnchgeiinkaefaaGreatDoorZaq
import Derived.Test.YtnchgeiinkaefaaGreatDoorZap
import Derived.Test.YtnchgeiinkaefaaGreatDoorZag
import Derived.Deep.AppendLies
import Derived.Laws.AppendOwnNone
import Derived.Test.YtnchgeiinkaefaaGreatDoorZal
import Derived.Test.YtnchgeiinkaefaaGreatDoorZaf
import Derived.RangeFuncNested
import Derived.RangeFuncBound
import Derived.RangeFuncCalls
import Derived.RangeFuncLeaves
import Derived.Shelf.Abstract
import Derived.Shelf.RegionOpen
import Derived.OwnWalkIn
import Derived.TacticsInMore
import Derived.LoopNIn
import Derived.LoopIn
section
/-
  impl.writeExpr, impl.RuleText.
-/
namespace Go.Proofs.YtnchgeiinkaefaaGreatDoor.Rule
set_option linter.unusedVariables false
open Go.RowKit RegIn
open Tiers (T T0 TR hide unhide below_trans)
open Kinds hiding hide unhide below_trans ext_toList
open _root_.Go.Proofs.YtnchgeiinkaefaaGreatDoor.Text (Tens itoaI)

def WrIC (d : Nat) : Prop := ∀ (lo hi : Nat) (v : Value) (e : Ex) (w : World), EV lo hi w d v e → hi ≤ w.heap.size → allB e = true → cnt e ≤ 1000 → Tens w →
  Calls Tryz.prog 124 #[v] w fun x w' => x = .returned (.string (bytesOf (wr e))) ∧ Below w.heap.size w w'

abbrev sV (x : List UInt8) : Value := .string (bytesOf x)
/-- a row of words of the call's own -/
def SO (W : World) (B : Nat) (v : Value) (ws : List (List UInt8)) : Prop := W.ownsRow B 9 1 v ws.length (ws.map sV)

theorem infoS' : ∃ i, Tryz.prog.info? 9 = some i ∧ i.zero = some (.string ByteArray.empty) ∧ i.size = 1 ∧ i.bytes = 16 := by
  obtain ⟨i, hi, h2⟩ := Option.map_eq_some_iff.1 infoS
  simp only [Prod.mk.injEq] at h2
  exact ⟨i, hi, h2.1, h2.2.1, h2.2.2⟩
theorem SO.nil (W : World) (B : Nat) : SO W B (.slice none 0 0) [] := ⟨by simp, .inl ⟨rfl, rfl⟩⟩
theorem SO.blk {W : World} {B : Nat} {v : Value} {ws : List (List UInt8)} (h : SO W B v ws) : ∀ q, v.ownBlock = some q → B ≤ q ∧ q < W.heap.size := World.ownsRow.lt h
theorem SO.kept {W W' : World} {B : Nat} {v : Value} {ws : List (List UInt8)} (h : SO W B v ws) (hb : Below W.heap.size W W') : SO W' B v ws :=
  World.ownsRow.kept (row := none) h ⟨hb.os, hb.tape, hb.output, hb.size, fun j hj _ => hb.block j hj⟩ (by
    cases h1 : v.ownBlock with
    | none => exact .inl rfl
    | some q => exact .inr (by simp))
theorem SO.form {W : World} {B : Nat} {v : Value} {ws : List (List UInt8)} (h : SO W B v ws) : ∃ a c, v = .slice a ws.length c := by
  obtain ⟨h1, h2⟩ := h
  rcases h2 with ⟨rfl, h0⟩ | ⟨g, cap, cur, rfl, _⟩
  · exact ⟨none, 0, by rw [h0]⟩
  · exact ⟨_, _, rfl⟩
theorem below_grown {B : Nat} {a b c : World} {r : Option Nat} (h : Below B a b) (hg : b.grownBy c r) (hB : B ≤ a.heap.size) (hr : ∀ q, r = some q → B ≤ q) : Below B a c :=
  h.grown hg (Nat.le_trans hB h.size) hr

theorem newOne (w : World) (X : List UInt8) (t : TypeId) : ∀ j y, [X][j]? = some y → (w.alloc (.cells #[.string (bytesOf X)] t)).cell? ⟨w.heap.size, j, none⟩ = some (sV y)
  | 0, y, hy => by
    obtain rfl : X = y := by simpa using hy
    have e1 := (MapKept.heap_alloc w (.cells #[.string (bytesOf X)] t)).1
    simp only [World.cell?]
    rw [e1]; rfl
section
variable {ops : Array Oper} {o : Oper} {a : Act} {Q : Exit → Act → World → Prop}
theorem listAppS (w : World) {rest : List Oper} (hgd : o.guard = none) (s x : Operand) (ho : o.op = .call { callee := .builtin .append, args := #[s, x], argTypes := #[158, 158] })
    (B N c n k : Nat) (v : Value) (ws new : List (List UInt8)) (hn : new.length = n) (hk : ws.length = k) (hs : a.eval s = v) (hv : SO w B v ws) (hx : a.eval x = .slice (some ⟨N, 0, none⟩) n c) (hN : ∀ j y, new[j]? = some y → w.cell? ⟨N, j, none⟩ = some (sV y)) (hne : new ≠ []) (hl : ws.length + new.length ≤ 1000) (hB : B ≤ w.heap.size)
    (h : ∀ g cap w', SO w' B (.slice (some ⟨g, 0, none⟩) (k + n) cap) (ws ++ new) → w.grownBy w' v.ownBlock → g < w'.heap.size → wpList Tryz.prog ops Q rest (a.put o.dst (.slice (some ⟨g, 0, none⟩) (k + n) cap)) w') :
    wpList Tryz.prog ops Q (o :: rest) a w := by
  subst hn hk
  obtain ⟨i, hi, hz, hsz, hby⟩ := infoS'
  refine wpList_append_lies (P := Tryz.prog) w hgd s x 158 ho B 9 i _ 1 16 Tryz.underlying158 hi hz hsz hby rfl (by omega) v ws.length (ws.map sV) hs hv ⟨N, 0, none⟩ new.length c (new.map sV) hx (by simp) ?_ ?_ (List.length_pos_iff.2 hne) (by unfold maxLen; omega) (by omega) hB _ rfl ?_
  · intro j u hu
    rw [List.getElem?_map] at hu
    obtain ⟨y, hy, rfl⟩ := Option.map_eq_some_iff.1 hu
    rw [Addr.add_lit, Nat.zero_add]
    exact hN j y hy
  · intro u hu
    obtain ⟨y, _, rfl⟩ := List.mem_map.1 hu
    rfl
  · intro g cap w' h1 h2 h3 h4
    refine h g cap w' ?_ h2 h4
    unfold SO
    rw [List.map_append, List.length_append]
    exact h1
theorem listAppNo (w : World) {rest : List Oper} (hgd : o.guard = none) (s x : Operand) (ho : o.op = .call { callee := .builtin .append, args := #[s, x], argTypes := #[158, 158] })
    (B : Nat) (v : Value) (ws : List (List UInt8)) (hs : a.eval s = v) (hv : SO w B v ws) (hx : a.eval x = .slice none 0 0)
    (h : wpList Tryz.prog ops Q rest (a.put o.dst v) w) :
    wpList Tryz.prog ops Q (o :: rest) a w := by
  obtain ⟨i, hi, hz, hsz, hby⟩ := infoS'
  exact wpList_append_own_none (P := Tryz.prog) hgd s x 158 ho B 9 i 1 Tryz.underlying158 hi v ws.length (ws.map sV) hs hv hx h
theorem listAppAny (w : World) {rest : List Oper} (hgd : o.guard = none) (s x : Operand) (ho : o.op = .call { callee := .builtin .append, args := #[s, x], argTypes := #[158, 158] })
    (B B' : Nat) (v vo : Value) (ws new : List (List UInt8)) (hs : a.eval s = v) (hv : SO w B v ws) (hx : a.eval x = vo) (hR : SR w B' vo new) (hne : ws ++ new ≠ []) (hl : ws.length + new.length ≤ 1000) (hB : B ≤ w.heap.size)
    (h : ∀ g cap w', SO w' B (.slice (some ⟨g, 0, none⟩) (ws ++ new).length cap) (ws ++ new) → w.grownBy w' v.ownBlock → g < w'.heap.size → wpList Tryz.prog ops Q rest (a.put o.dst (.slice (some ⟨g, 0, none⟩) (ws ++ new).length cap)) w') :
    wpList Tryz.prog ops Q (o :: rest) a w := by
  rcases hR with ⟨rfl, rfl⟩ | ⟨hn, b, cap, rfl, hc, h1, h2, h3⟩
  · refine listAppNo w hgd s x ho B v ws hs hv hx ?_
    have hv' := hv
    have hb := hv.blk
    obtain ⟨e1, e2⟩ := hv
    rw [List.append_nil] at *
    rcases e2 with ⟨rfl, h0⟩ | ⟨g, cap, cur, rfl, _⟩
    · exact absurd (List.length_eq_zero_iff.1 h0) hne
    · exact h g cap w hv' (World.grownBy.refl _ _) (hb g rfl).2
  · refine listAppS w hgd s x ho B b cap new.length ws.length v ws new rfl rfl hs hv hx h3 hn hl hB ?_
    rw [List.length_append] at h
    exact h
end
theorem SO.cells {W : World} {B g n cap : Nat} {ws : List (List UInt8)} (h : SO W B (.slice (some ⟨g, 0, none⟩) n cap) ws) : ∀ j x, ws[j]? = some x → W.cell? ⟨g, j, none⟩ = some (sV x) := fun j x hx => by
  have := World.ownsRow.cells h rfl j (sV x) (by rw [List.getElem?_map, hx]; rfl)
  rw [Addr.add_lit, Nat.zero_add] at this
  exact this
theorem SO.cap {W : World} {B g n cap : Nat} {ws : List (List UInt8)} (h : SO W B (.slice (some ⟨g, 0, none⟩) n cap) ws) : ws.length ≤ cap := by
  obtain ⟨h1, h2⟩ := h
  rcases h2 with ⟨h3, _⟩ | ⟨g', cap', cur, h3, hB, hb, h4⟩
  · cases h3
  · simp only [Value.slice.injEq] at h3
    obtain ⟨_, _, rfl⟩ := h3
    exact h4.1

theorem bytes_map (l : List (List UInt8)) : (l.map bytesOf).map (·.data.toList) = l := by
  rw [List.map_map]
  have : ((fun x : ByteArray => x.data.toList) ∘ bytesOf) = id := by funext x; simp [bytesOf]
  rw [this, List.map_id]
theorem own_len {k n : Int} {m : ByteArray} {nk : Nat} {ts : List (Int × Int)} (h : nodeB k n m nk ts = true) : (ownW k n m ts).length ≤ 6 := by
  unfold ownW
  split
  · simp
  split
  · simp
  split
  · rename_i h1 h2 h3
    have := (tier_ok ((node_more h (by omega) (by omega)).2.2.2.2.2.2.2.1 h3)).1
    simpa using this
  · simp
/-- the words of a node, joined -/
theorem join_node {k n : Int} {m : ByteArray} {ks : List Ex} {ts : List (Int × Int)} (h : nodeB k n m ks.length ts = true) :
    ks.map wr ++ ownW k n m ts ≠ [] ∧ (wordK k = ByteArray.empty → Lib.join (ks.map wr ++ ownW k n m ts) [32] = wr (.mk k n m ks ts)) ∧ (wordK k ≠ ByteArray.empty → wr (.mk k n m ks ts) = 40 :: (wordL k ++ 32 :: (Lib.join (ks.map wr ++ ownW k n m ts) [32] ++ [41]))) ∧ (Lib.join (ks.map wr ++ ownW k n m ts) [32]).length ≤ (wr (.mk k n m ks ts)).length := by
  rw [wr]
  by_cases k1 : k = 1
  · subst k1
    obtain ⟨a1, _, _, _⟩ := node_num h
    obtain rfl := List.length_eq_zero_iff.1 a1
    have e : Lib.join (([] : List Ex).map wr ++ ownW 1 n m ts) [32] = Lib.itoa n := by simp [ownW, Lib.join_one]
    rw [e, if_pos rfl]
    exact ⟨by simp [ownW], fun _ => rfl, fun h => absurd (by decide) h, Nat.le_refl _⟩
  by_cases k2 : k = 2
  · subst k2
    obtain ⟨a1, _, _, _⟩ := node_name h
    obtain rfl := List.length_eq_zero_iff.1 a1
    have e : Lib.join (([] : List Ex).map wr ++ ownW 2 n m ts) [32] = m.data.toList := by simp [ownW, Lib.join_one]
    rw [e, if_neg (by omega), if_pos rfl]
    exact ⟨by simp [ownW], fun _ => rfl, fun h => absurd (by decide) h, Nat.le_refl _⟩
  obtain ⟨h3, a1, a2, a3, a4, a5, a6, a7, a8⟩ := node_more h k1 k2
  have hks : ks ≠ [] := fun e => by rw [e] at a2; simp at a2
  have hj := wordsW_eq (k := k) (n := n) (m := m) (ks := ks) (ts := ts) h3.1 a8 hks
  rw [if_neg k1, if_neg k2]
  have e : 40 :: (wordL k ++ (wrS ks ++ (wrO k n ts ++ [41]))) = 40 :: (wordL k ++ 32 :: (Lib.join (ks.map wr ++ ownW k n m ts) [32] ++ [41])) := by
    rw [← List.append_assoc (wrS ks), ← hj]; simp
  refine ⟨by simp [hks], fun h => ?_, fun _ => e, by rw [e]; simp; omega⟩
  exfalso
  have : k = 3 ∨ k = 4 ∨ k = 5 ∨ k = 6 ∨ k = 7 ∨ k = 8 ∨ k = 9 ∨ k = 10 := by omega
  rcases this with rfl | rfl | rfl | rfl | rfl | rfl | rfl | rfl
  all_goals exact absurd (congrArg ByteArray.size h) (by decide)

set_option maxRecDepth 20000 in
set_option maxHeartbeats 1600000 in
theorem wrI_step {d : Nat} (H : ∀ d', d = d' + 1 → WrIC d') : WrIC d := by
  rintro lo hi v e w ⟨kv, tv, rfl, hz, hk, ht⟩ hhi ha hc hT
  obtain ⟨ka, kc, rfl, hkl⟩ := hk.form
  obtain ⟨ta, tc, rfl⟩ := ht.form
  have hl := wr_len e ha
  have hcn := cnt_eq e
  obtain ⟨k, n, m, ks, ts⟩ := e
  rw [allB, Bool.and_eq_true] at ha
  obtain ⟨hn, hks⟩ := ha
  simp only [Ex.kind, Ex.num, Ex.meter, Ex.kids, Ex.tiers] at *
  have h10 : 1 ≤ k ∧ k ≤ 10 := by
    unfold nodeB at hn
    simp only [Bool.and_eq_true, decide_eq_true_eq] at hn
    omega
  have hk3 : ks.length ≤ 3 := by
    unfold nodeB at hn
    simp only [Bool.and_eq_true, decide_eq_true_eq] at hn
    have h3 : kidsK k ≤ 3 := by unfold kidsK; repeat' split
                                all_goals omega
    omega
  have n5 := new5 w (.int .i64 k) (.int .i64 n) (.string m) (.slice ka ks.length kc) (.slice ta ts.length tc) 77
  obtain ⟨W0, hW0⟩ : ∃ W0, w.alloc (.cells #[.int .i64 k, .int .i64 n, .string m, .slice ka ks.length kc, .slice ta ts.length tc] 77) = W0 := ⟨_, rfl⟩
  have B0 : Hid (Below w.heap.size w W0) := hide (by rw [← hW0]; exact below_alloc _ _)
  have hs0 : W0.heap.size = w.heap.size + 1 := by rw [← hW0]; simp
  rw [hW0] at n5
  have N5 := hide n5
  have HW0 := hide hW0
  have hkv := kindV_in h10
  obtain ⟨c0, c1, c2, c3, c4⟩ := n5
  clear hW0
  go_enter Tryz.func124, Tryz.ntmps124
  go_wp2_with (fail)
  rw [unhide HW0]
  refine (kindOf _ _).mono ?_
  rintro x w1 ⟨rfl, hw1⟩
  obtain rfl : W0 = w1 := hw1.symm
  rw [hkv]
  go_wp2_with (fail)
  have HKS := hide hk
  have HTT : Hid (Tens W0) := hide (hT.kept (unhide B0))
  have HH := hide H
  have HAL := hide hks
  have HEV := hide ht
  clear hk ht H hT hks c0 c1 c2 c3 c4
  go_loopw [4, 15] (fun t i wr => ∃ (j : Nat) (v : Value), j ≤ ks.length ∧ i = .int .i64 j ∧ t = v ∧ Hid (SO wr (w.heap.size + 1) v ((ks.take j).map Rule.wr)) ∧ Hid (Below W0.heap.size W0 wr)) (fun _ i _ => ks.length - (intOf i).toNat)
  case atStart => exact ⟨0, _, by omega, rfl, rfl, hide (SO.nil _ _), hide (Below.refl _ _)⟩
  case round =>
    obtain ⟨j, v, hj, rfl, hvt, hso, hb⟩ := hrel
    have hzr := (unhide hb).size
    have hsl : ((ks.take j).map Rule.wr).length = j := by simp; omega
    obtain ⟨va, vc, hvf⟩ := (unhide hso).form
    rw [hsl] at hvf
    subst hvf hvt
    by_cases hlt : j < ks.length
    · obtain ⟨d', b, o, cap, kv', tv', rfl, hv, hbb, ⟨c0', c1', c2', c3', c4'⟩, hev⟩ := ((unhide HKS).kept (same_below (below_trans (unhide B0) (unhide hb)) hhi)).at hlt
      simp only [Value.slice.injEq, true_and] at hv
      obtain ⟨rfl, rfl⟩ := hv
      obtain ⟨xa, xc, ya, yc, hform⟩ := hev.form
      obtain ⟨e4, e5⟩ : kv' = .slice xa (ks.getD j E0).kids.length xc ∧ tv' = .slice ya (ks.getD j E0).tiers.length yc := by simpa [exV] using hform
      subst e4 e5
      clear hform
      have HEV2 : Hid (∀ ob, EV lo hi (wr.alloc ob) d' (.agg #[.int .i64 (ks.getD j E0).kind, .int .i64 (ks.getD j E0).num, .string (ks.getD j E0).meter, .slice xa (ks.getD j E0).kids.length xc, .slice ya (ks.getD j E0).tiers.length yc]) (ks.getD j E0)) := hide (fun ob => hev.kept (same_below (below_alloc _ _) (by omega)))
      have HKID := hide (unhide HH d' rfl)
      have HA := hide (allL_at (unhide HAL) hlt)
      have hcj := cntL_at hlt
      have i1 : (j : Int) < (ks.length : Int) := by omega
      have HTK : Hid (∀ x, Rule.wr (ks.getD j E0) = x → (ks.take (j + 1)).map Rule.wr = (ks.take j).map Rule.wr ++ [x]) := hide (fun x hx => by rw [take_at hlt, List.map_append, ← hx]; rfl)
      have HT5 : Hid (∀ ob, Tens (wr.alloc ob)) := hide (fun ob => ((unhide HTT).kept (unhide hb)).kept (below_alloc _ _))
      clear hev
      generalize ks.getD j E0 = ex at *
      obtain ⟨xk, xn, xm, xks, xts⟩ := ex
      simp only [Ex.kind, Ex.num, Ex.meter, Ex.kids, Ex.tiers] at c0' c1' c2' c3' c4' HEV2
      go_wp2_with (fail)
      refine (unhide HKID lo hi _ _ _ (unhide HEV2 _) (by simp; omega) (unhide HA) (by omega) (unhide HT5 _)).mono ?_
      rintro x w2 ⟨rfl, hb2⟩
      have HB2 := hide (below_trans (below_trans (unhide hb) (below_alloc _ _)) hb2)
      have HS2 := hide ((unhide hso).kept (below_trans (below_alloc _ _) hb2))
      clear hb2 hso c0' c1' c2' c3' c4' HEV2 HT5
      generalize hX : Rule.wr (.mk xk xn xm xks xts) = X at *
      have HTX := hide (unhide HTK X rfl)
      clear HTK hX
      generalize (ks.take j).map Rule.wr = ws at *
      have hz2 := (unhide HB2).size
      have HN1 := hide (newOne w2 X 9)
      have HS3 := hide ((unhide HS2).kept (below_alloc w2 (.cells #[.string (bytesOf X)] 9)))
      have HG : Hid (∀ w', (w2.alloc (.cells #[.string (bytesOf X)] 9)).grownBy w' (Value.slice va j vc).ownBlock → Below W0.heap.size W0 w') := hide (fun w' h2 => below_grown (below_trans (unhide HB2) (below_alloc _ _)) h2 (Nat.le_refl _) (fun q hq => by have := (unhide HS3).blk q hq; omega))
      go_wp2_with (first | (at_builtin; refine listAppS _ rfl _ _ rfl (w.heap.size + 1) w2.heap.size 1 1 j (.slice va j vc) ws [X] rfl hsl rfl (unhide HS3) rfl (unhide HN1) (by simp) (by simp; omega) (by simp; omega) ?_; intro g cap w' h1 h2 h3; have S6 := hide h1; have B6 := hide (unhide HG w' h2); clear h1 h2 h3) | fail)
      exact ⟨⟨j + 1, _, by omega, by go_num, rfl, by rw [unhide HTX]; exact S6, B6⟩, by simp [intOf]; omega⟩
    · obtain rfl : j = ks.length := by omega
      obtain ⟨n0, n1, n2, n3, n4⟩ := unhide N5
      have hwb : w.heap.size < W0.heap.size := by omega
      have r0 := ((unhide hb).cell (p := ⟨w.heap.size, 0, none⟩) hwb).trans n0
      have r1 := ((unhide hb).cell (p := ⟨w.heap.size, 1, none⟩) hwb).trans n1
      have r2 := ((unhide hb).cell (p := ⟨w.heap.size, 2, none⟩) hwb).trans n2
      have r3 := ((unhide hb).cell (p := ⟨w.heap.size, 3, none⟩) hwb).trans n3
      have r4 := ((unhide hb).cell (p := ⟨w.heap.size, 4, none⟩) hwb).trans n4
      clear n0 n1 n2 n3 n4
      have mm1 := mLook h10
      have mm2 := mOwn h10
      have mm3 := eOwn h10
      have hso' := unhide hso
      rw [List.take_length] at hso'
      have HSO := hide hso'
      obtain ⟨j1, j2, j3, j4⟩ := join_node hn
      have ho6 := own_len hn
      have HJ1 := hide j1
      have HJ2 := hide j2
      have HJ3 := hide j3
      have hwl8 : (wordK k).size ≤ 8 := by
        rcases cases10 h10 with rfl | rfl | rfl | rfl | rfl | rfl | rfl | rfl | rfl | rfl <;> decide
      clear j1 j2 j3 hso hso'
      go_wp2_with (fail)
      refine (ownI h10 n m _ lo hi ta ks.length tc ts wr hn ((unhide HEV).kept (same_below (below_trans (unhide B0) (unhide hb)) hhi)) (by omega) ((unhide HTT).kept (unhide hb))).mono ?_
      rintro x w2 ⟨vo, rfl, hsr, hb2⟩
      have HSR := hide hsr
      have B2 := hide (below_trans (unhide hb) hb2)
      have S2 := hide ((unhide HSO).kept hb2)
      have hz2 := (unhide B2).size
      generalize hW : ks.map Rule.wr = ws at *
      have hwl : ws.length = ks.length := by rw [← hW]; simp
      generalize hO : ownW k n m ts = os at *
      have HG : Hid (∀ w', w2.grownBy w' (Value.slice va ks.length vc).ownBlock → Below W0.heap.size W0 w') := hide (fun w' h2 => below_grown (unhide B2) h2 (Nat.le_refl _) (fun q hq => by have := (unhide S2).blk q hq; omega))
      clear hb2 hb hsr HSO r0 r1 r2 r3 r4
      go_wp2_with (first | (at_builtin; refine listAppAny _ rfl _ _ rfl (w.heap.size + 1) wr.heap.size _ vo ws os rfl (unhide S2) rfl (unhide HSR) (unhide HJ1) (by omega) (by omega) ?_; intro g cap w3 h1 h2 h3; have S3 := hide h1; have B3 := hide (unhide HG w3 h2); have hg3 := h3; clear h1 h2 h3) | fail)
      have hJ := Tryz.strings_Join g 0 cap ((ws ++ os).map bytesOf) ⟨#[32]⟩ w3 (fun i x hx => by
        rw [List.getElem?_map] at hx
        obtain ⟨y, hy, rfl⟩ := Option.map_eq_some_iff.1 hx
        rw [Nat.zero_add]
        exact (unhide S3).cells i y hy) hg3 (by simp; omega) (by have := (unhide S3).cap; simpa using this) (by rw [bytes_map]; show (Lib.join (ws ++ os) [32]).length ≤ _; omega)
      rw [bytes_map] at hJ
      have e1 : ((ws ++ os).map bytesOf).length = ks.length + os.length := by simp [hwl]
      have e2 : Lib.join (ws ++ os) (⟨#[32]⟩ : ByteArray).data.toList = Lib.join (ws ++ os) [32] := rfl
      rw [e1, e2] at hJ
      generalize hJn : Lib.join (ws ++ os) [32] = J at *
      have HJ := hide hJ
      clear hJ e1 e2 hJn S3 HJ1 HSR S2 HG
      refine (unhide HJ).mono ?_
      rintro x w4 ⟨rfl, hb4⟩
      have B4 := hide (below_trans (unhide B3) hb4)
      have hJl : J.length ≤ 200000 := by omega
      have fl : ∀ (w : World), (Instr.field 192 (.agg #[.string (wordK k), .int .i64 (kidsK k)]) 0).run Tryz.prog w = .ok (.string (wordK k)) w := fun w => by kernel_rfl
      clear hb4 B3 HJ mm2 mm3
      by_cases hwe : wordK k = ByteArray.empty
      · have hxe : (wordK k).toList.isEmpty = true := by rw [hwe, Lib.toList_data]; rfl
        have HE := hide (unhide HJ2 hwe)
        clear hwe HJ2 HJ3
        go_wp2_with (first | (go_at_call 262; refine (Kinds.look (wordK k) (kidsK k) _).mono ?_; rintro x w6 ⟨rfl, hb6⟩; have B6 := hide (below_trans (unhide B4) hb6); clear hb6) | fail)
        go_ret
        exact ⟨by rw [← unhide HE]; rfl, below_trans (unhide B0) (unhide B6)⟩
      · have hxe : (wordK k).toList.isEmpty = false := by
          cases h : (wordK k).toList.isEmpty
          · rfl
          · exfalso
            refine hwe ?_
            have : (wordK k).toList = [] := List.isEmpty_iff.1 h
            rw [Lib.toList_data] at this
            apply ByteArray.ext
            apply Array.ext'
            simpa using this
        have HE := hide (unhide HJ3 hwe)
        clear hwe HJ2 HJ3
        go_wp2_with (first | (go_at_call 262; refine (Kinds.look (wordK k) (kidsK k) _).mono ?_; rintro x w6 ⟨rfl, hb6⟩; have B6 := hide (below_trans (unhide B4) hb6); clear hb6) | fail)
        go_ret
        refine ⟨?_, below_trans (unhide B0) (unhide B6)⟩
        rw [unhide HE]
        refine congrArg (fun z => Ending.returned (Value.string z)) ?_
        apply ByteArray.ext
        simp [bytesOf, wordL]
theorem wrI_all : ∀ d, WrIC d
  | 0 => wrI_step (fun d' h => by omega)
  | d + 1 => wrI_step (fun d' h => by
    obtain rfl : d = d' := by omega
    exact wrI_all d)

set_option maxRecDepth 20000 in
/-- impl.RuleText -/
theorem textI (d lo hi : Nat) (v : Value) (e : Ex) (w : World) (h : EV lo hi w d v e) (hhi : hi ≤ w.heap.size) (hw : wt e ≤ 1048576) (hT : Tens w) :
    Calls Tryz.prog 96 #[v] w fun x w' => x = .returned (.string (bytesOf (textE e))) ∧ Below w.heap.size w w' := by
  obtain ⟨ka, kc, ta, tc, rfl⟩ := h.form
  have HE := hide h
  have HT := hide hT
  generalize hr : textE e = r
  have HR := hide hr
  clear h hr hT
  have hN := new5 w (.int .i64 e.kind) (.int .i64 e.num) (.string e.meter) (.slice ka e.kids.length kc) (.slice ta e.tiers.length tc) 77
  obtain ⟨W0, hW0⟩ : ∃ W0, w.alloc (.cells #[.int .i64 e.kind, .int .i64 e.num, .string e.meter, .slice ka e.kids.length kc, .slice ta e.tiers.length tc] 77) = W0 := ⟨_, rfl⟩
  have B0 : Hid (Below w.heap.size w W0) := hide (by rw [← hW0]; exact below_alloc _ _)
  have hs0 : W0.heap.size = w.heap.size + 1 := by rw [← hW0]; simp
  rw [hW0] at hN
  have HW0 := hide hW0
  have N5 := hide hN
  obtain ⟨c0, c1, c2, c3, c4⟩ := hN
  clear hW0
  go_enter Tryz.func96, Tryz.ntmps96
  go_wp2_with (fail)
  rw [unhide HW0]
  refine (okI d lo hi _ e W0 ((unhide HE).kept (same_below (unhide B0) hhi)) (by omega) hw).mono ?_
  rintro x w1 ⟨rfl, hb1⟩
  have B1 := hide (below_trans (unhide B0) hb1)
  have hwb : w.heap.size < W0.heap.size := by omega
  obtain ⟨n0, n1, n2, n3, n4⟩ := unhide N5
  have r0 := (hb1.cell (p := ⟨w.heap.size, 0, none⟩) hwb).trans n0
  have r1 := (hb1.cell (p := ⟨w.heap.size, 1, none⟩) hwb).trans n1
  have r2 := (hb1.cell (p := ⟨w.heap.size, 2, none⟩) hwb).trans n2
  have r3 := (hb1.cell (p := ⟨w.heap.size, 3, none⟩) hwb).trans n3
  have r4 := (hb1.cell (p := ⟨w.heap.size, 4, none⟩) hwb).trans n4
  clear hb1 c0 c1 c2 c3 c4 n0 n1 n2 n3 n4
  cases hk : okE e
  · have hr : r = [] := by rw [← unhide HR, textE, hk]; rfl
    subst hr
    go_wp2_with (fail)
    go_ret
    exact ⟨rfl, unhide B1⟩
  · have hr : r = wr e := by rw [← unhide HR, textE, hk]; rfl
    obtain ⟨o1, o2, _⟩ := ok_all hk
    have HX := hide hr
    clear hr hk
    go_wp2_with (fail)
    refine (wrI_all d lo hi _ e w1 ((unhide HE).kept (same_below (unhide B1) hhi)) (Nat.le_trans hhi (unhide B1).size) o1 (by omega) ((unhide HT).kept (unhide B1))).mono ?_
    rintro x w2 ⟨rfl, hb2⟩
    have B2 := hide (below_trans (unhide B1) hb2)
    clear hb2 r0 r1 r2 r3 r4
    rw [← unhide HX]
    go_wp2_with (fail)
    go_ret
    exact ⟨rfl, unhide B2⟩
end Go.Proofs.YtnchgeiinkaefaaGreatDoor.Rule
end

section
/-
  impl.RuleRead.
-/
namespace Go.Proofs.YtnchgeiinkaefaaGreatDoor.Rule
set_option linter.unusedVariables false
open Go.RowKit
open Tiers (T T0 TR hide unhide below_trans)
open Kinds hiding hide unhide below_trans ext_toList

/-- what the program's RuleRead hands out: its memory is its own -/
def ReadOutI (w w' : World) (t : List UInt8) (v : Value) (ok : Bool) : Prop :=
  (ok = true → ∃ e kv tv d, IsRule t e ∧ v = .agg #[.int .i64 e.kind, .int .i64 e.num, .string e.meter, kv, tv] ∧ OX w' d w.heap.size w'.heap.size (e, kv, tv)) ∧ (ok = false → v = .agg #[.int .i64 0, .int .i64 0, .string ⟨#[]⟩, .slice none 0 0, .slice none 0 0] ∧ ∀ e, ¬ IsRule t e)

theorem isRule_reads {t : List UInt8} {e e0 : Ex} {n : Nat} {r : List UInt8} (h : IsRule t e0) (hr : ReadsI n t e r) : textE e = t := by
  have h2 := h.2.1
  have ha := (ok_all h.1).1
  have := reads_wr n e0 [] e r ha (.inl rfl) low_nil (by rw [List.append_nil, h2]; exact hr)
  rw [this.1, textE, h.1]
  exact h2

set_option maxRecDepth 20000 in
set_option maxHeartbeats 1600000 in
theorem readRI (s : ByteArray) (w : World) (hs : s.size ≤ maxLen) (he : EnvR w) :
    Calls Tryz.prog 64 #[.string s] w fun x w' => ∃ v ok, x = .returned (.tuple #[v, .bool ok]) ∧ ReadOutI w w' s.data.toList v ok ∧ Below w.heap.size w w' := by
  unfold maxLen at hs
  have hlen : s.data.toList.length = s.size := Array.length_toList
  by_cases h0 : s.size = 0
  · have hx := isEmpty_yes h0
    have HN : Hid (∀ e, ¬ IsRule s.data.toList e) := hide (fun e h => h.ne (List.length_eq_zero_iff.1 (by omega)))
    go_enter Tryz.func64, Tryz.ntmps64
    go_wp2_with (fail)
    have oo := Boxes.At.new w #[.int .i64 0, .int .i64 0, .string ⟨#[]⟩, .slice none 0 0, .slice none 0 0] 77
    obtain ⟨t0, _⟩ := oo 0 _ rfl
    obtain ⟨t1, _⟩ := oo 1 _ rfl
    obtain ⟨t2, _⟩ := oo 2 _ rfl
    obtain ⟨t3, _⟩ := oo 3 _ rfl
    obtain ⟨t4, _⟩ := oo 4 _ rfl
    exact bodyPost_ret (v := .tuple #[.agg #[.int .i64 0, .int .i64 0, .string ⟨#[]⟩, .slice none 0 0, .slice none 0 0], .bool false]) (by simp [results, Tryz.results64, go_sem, t0, t1, t2, t3, t4]) rfl ⟨_, false, rfl, ⟨fun h => (by cases h), fun _ => ⟨rfl, unhide HN⟩⟩, below_alloc _ _⟩
  have hx := isEmpty_no h0
  by_cases hl : 600 < s.size
  · have HN : Hid (∀ e, ¬ IsRule s.data.toList e) := hide (fun e h => by have := h.2.2; omega)
    have i1 : (600 : Int) < (s.size : Int) := by omega
    go_enter Tryz.func64, Tryz.ntmps64
    go_wp2_with (fail)
    have oo := Boxes.At.new w #[.int .i64 0, .int .i64 0, .string ⟨#[]⟩, .slice none 0 0, .slice none 0 0] 77
    obtain ⟨t0, _⟩ := oo 0 _ rfl
    obtain ⟨t1, _⟩ := oo 1 _ rfl
    obtain ⟨t2, _⟩ := oo 2 _ rfl
    obtain ⟨t3, _⟩ := oo 3 _ rfl
    obtain ⟨t4, _⟩ := oo 4 _ rfl
    exact bodyPost_ret (v := .tuple #[.agg #[.int .i64 0, .int .i64 0, .string ⟨#[]⟩, .slice none 0 0, .slice none 0 0], .bool false]) (by simp [results, Tryz.results64, go_sem, t0, t1, t2, t3, t4]) rfl ⟨_, false, rfl, ⟨fun h => (by cases h), fun _ => ⟨rfl, unhide HN⟩⟩, below_alloc _ _⟩
  have i1 : ¬ (600 : Int) < (s.size : Int) := by omega
  have HR : Hid (∀ W : World, EnvR W → _) := hide (fun W hW => read_all (s.size + 1) s.data.toList W (by omega) (by omega) hW)
  rw [bytes_self] at HR
  have HEW := hide he
  clear he
  go_enter Tryz.func64, Tryz.ntmps64
  go_wp2_with (fail)
  refine (unhide HR _ ((unhide HEW).kept (below_alloc _ _))).mono ?_
  rintro x w1 ⟨e, kv, tv, r, rfl, hrd, hox, hb1⟩
  have hwt := reads_wt _ _ _ _ hrd
  obtain ⟨xa, xc, hxf, _⟩ := hox.2.choose_spec.1.es.form
  obtain ⟨ya, yc, hyf⟩ := hox.2.choose_spec.2.tl.form
  simp only at hxf hyf
  subst hxf hyf
  obtain ⟨q1, hB, hz1⟩ := Boxes.box1 hb1
  have Q1 := hide q1
  have B1 := hide hB
  have hox1 := hox
  rw [World.size_alloc] at hox1
  have HOX := hide hox1
  have HRD := hide hrd
  clear hb1 hB q1 hox hox1 hrd HR
  have hwt2 : wt e ≤ 1048576 := by omega
  go_wp2_with (fail)
  have hE1 : EnvR w1 := (unhide HEW).kept (unhide B1)
  refine (textI (s.size + 1) (w.heap.size + 1) w1.heap.size _ e _ ((unhide HOX).ev.kept (same_below (below_alloc _ _) (Nat.le_refl _))) (by simp) hwt2 (hE1.kept (below_alloc _ _)).1.1).mono ?_
  rintro x w3 ⟨rfl, hb3⟩
  obtain ⟨e0, e1, e2, e3, e4, hB3⟩ := box5 _ _ _ _ _ _ _ _ hb3
  have B3 := hide (below_trans (unhide B1) hB3)
  have hq := (unhide Q1).below hB3 (by omega)
  have Q3 := hide hq
  obtain ⟨c0, f0⟩ := hq 0 _ rfl
  obtain ⟨c1, f1⟩ := hq 1 _ rfl
  obtain ⟨c2, f2⟩ := hq 2 _ rfl
  obtain ⟨c3, f3⟩ := hq 3 _ rfl
  obtain ⟨c4, f4⟩ := hq 4 _ rfl
  have HOX3 : Hid (OX w3 (s.size + 1) (w.heap.size + 1) w1.heap.size (e, .slice xa e.kids.length xc, .slice ya e.tiers.length yc)) := hide ((unhide HOX).kept (same_below hB3 (Nat.le_refl _)))
  have hz3 := hB3.size
  clear hb3 hB3 hq hE1
  by_cases hT : textE e = s.data.toList
  · have hne : (!(bytesOf (textE e)).toList == s.toList) = false := by rw [hT, bytes_self]; simp
    have HI : Hid (IsRule s.data.toList e) := hide (isRule_of hT (fun h => by rw [h] at hlen; simp at hlen; omega) (by omega))
    clear hT
    generalize textE e = tx at *
    go_wp2_with (fail)
    have hA5 := at_put5 (unhide Q3) (.int .i64 e.kind) (.int .i64 e.num) (.string e.meter) (.slice xa e.kids.length xc) (.slice ya e.tiers.length yc)
    obtain ⟨s0, _⟩ := hA5 0 _ rfl
    obtain ⟨s1, _⟩ := hA5 1 _ rfl
    obtain ⟨s2, _⟩ := hA5 2 _ rfl
    obtain ⟨s3, _⟩ := hA5 3 _ rfl
    obtain ⟨s4, _⟩ := hA5 4 _ rfl
    have hfin := below_put5 (unhide B3) (b := w.heap.size) (Nat.le_refl _) (.int .i64 e.kind) (.int .i64 e.num) (.string e.meter) (.slice xa e.kids.length xc) (.slice ya e.tiers.length yc)
    have hW : ∀ c, c ≠ w.heap.size → (((((w3.setCell ⟨w.heap.size, 0, none⟩ (.int .i64 e.kind)).setCell ⟨w.heap.size, 1, none⟩ (.int .i64 e.num)).setCell ⟨w.heap.size, 2, none⟩ (.string e.meter)).setCell ⟨w.heap.size, 3, none⟩ (.slice xa e.kids.length xc)).setCell ⟨w.heap.size, 4, none⟩ (.slice ya e.tiers.length yc)).heap[c]? = w3.heap[c]? := fun c hc => by
      have k : ∀ (V : World) (o : Nat) (u : Value), (V.setCell ⟨w.heap.size, o, none⟩ u).heap[c]? = V.heap[c]? := fun V o u => Below.heap_setCell V ⟨w.heap.size, o, none⟩ u c (by simpa using hc)
      rw [k, k, k, k, k]
    exact bodyPost_ret (v := .tuple #[.agg #[.int .i64 e.kind, .int .i64 e.num, .string e.meter, .slice xa e.kids.length xc, .slice ya e.tiers.length yc], .bool true]) (by simp [results, Tryz.results64, go_sem, s0, s1, s2, s3, s4]) rfl ⟨_, true, rfl, ⟨fun _ => ⟨e, _, _, s.size + 1, unhide HI, rfl, ((unhide HOX3).kept (fun c c1 c2 => hW c (by omega))).mono (by omega) (by simp; omega)⟩, fun h => (by cases h)⟩, hfin⟩
  · have hne : (!(bytesOf (textE e)).toList == s.toList) = true := by
      have : (bytesOf (textE e)).toList ≠ s.toList := fun h => hT (by
        have h2 := Kinds.ext_toList h
        rw [← h2]; simp [bytesOf])
      simpa using this
    have HN : Hid (∀ e', ¬ IsRule s.data.toList e') := hide (fun e' h => hT (isRule_reads h (unhide HRD)))
    clear hT
    generalize textE e = tx at *
    go_wp2_with (fail)
    have hA5 := at_put5 (unhide Q3) (.int .i64 0) (.int .i64 0) (.string ⟨#[]⟩) (.slice none 0 0) (.slice none 0 0)
    obtain ⟨s0, _⟩ := hA5 0 _ rfl
    obtain ⟨s1, _⟩ := hA5 1 _ rfl
    obtain ⟨s2, _⟩ := hA5 2 _ rfl
    obtain ⟨s3, _⟩ := hA5 3 _ rfl
    obtain ⟨s4, _⟩ := hA5 4 _ rfl
    exact bodyPost_ret (v := .tuple #[.agg #[.int .i64 0, .int .i64 0, .string ⟨#[]⟩, .slice none 0 0, .slice none 0 0], .bool false]) (by simp [results, Tryz.results64, go_sem, s0, s1, s2, s3, s4]) rfl ⟨_, false, rfl, ⟨fun h => (by cases h), fun _ => ⟨rfl, unhide HN⟩⟩, below_put5 (unhide B3) (Nat.le_refl _) _ _ _ _ _⟩
end Go.Proofs.YtnchgeiinkaefaaGreatDoor.Rule
end

section
/-
  Lines of a tariff that are right: impl.lineRight.
-/
namespace Go.Proofs.YtnchgeiinkaefaaGreatDoor.Bill
set_option linter.unusedVariables false
open Go.RowKit Evs
open Rule (EnvR IsRule OX readRI ReadOutI)
open Kinds (nameB nameI)

theorem rule_out {w w' : World} {t : ByteArray} {v : Value} {ok : Bool} (h : ReadOutI w w' t.data.toList v ok) : ok = ruleB t := by
  unfold ruleB
  cases ok with
  | true =>
    obtain ⟨e, _, _, _, h1, _⟩ := h.1 rfl
    exact (@decide_eq_true _ (Classical.propDecidable _) ⟨e, h1⟩).symm
  | false => exact (@decide_eq_false _ (Classical.propDecidable _) (fun ⟨e, he⟩ => (h.2 rfl).2 e he)).symm

set_option maxRecDepth 20000 in
set_option maxHeartbeats 1000000 in
/-- impl.lineRight -/
theorem lineI (s m : ByteArray) (q : Int) (W : World) (h1 : s.size ≤ maxLen) (h2 : m.size ≤ maxLen) (he : EnvR W) : Calls Tryz.prog 58 #[.agg #[.string s, .string m, .int .i64 q]] W fun x w' => x = .returned (.bool (lineB (s, m, q))) ∧ Below W.heap.size W w' := by
  have HE := hide he
  generalize hr : lineB (s, m, q) = r
  have HR : Hid ((nameB s && decide (0 ≤ q ∧ q ≤ 5000) && ruleB m) = r) := hide hr
  clear he hr
  go_enter Tryz.func58, Tryz.ntmps58
  go_wp2_with (fail)
  refine (nameI s _ h1).mono ?_
  rintro x w1 ⟨rfl, hb1⟩
  obtain ⟨q1, hB, hz1⟩ := Boxes.box1 hb1
  obtain ⟨c0, _⟩ := q1 0 _ rfl
  obtain ⟨c1, _⟩ := q1 1 _ rfl
  obtain ⟨c2, _⟩ := q1 2 _ rfl
  have HB := hide hB
  clear hb1 hB q1
  cases hn : nameB s
  · have hr : r = false := by rw [← unhide HR, hn]; rfl
    subst hr
    go_wp2_with (fail)
    go_ret
    exact ⟨rfl, unhide HB⟩
  · by_cases hq : 0 ≤ q ∧ q ≤ 5000
    · obtain ⟨b1, b2⟩ := hq
      have b1' : ¬ q < 0 := by omega
      have b2' : ¬ (5000 : Int) < q := by omega
      have HR2 : Hid (ruleB m = r) := hide (by rw [← unhide HR, hn, decide_eq_true ⟨b1, b2⟩]; rfl)
      go_wp2_with (fail)
      refine (readRI m w1 h2 ((unhide HE).kept (unhide HB))).mono ?_
      rintro x w2 ⟨v, ok, rfl, hO, hb2⟩
      have hok := rule_out hO
      rw [unhide HR2] at hok
      subst hok
      have HB2 := hide (below_trans (unhide HB) hb2)
      obtain ⟨e1, e2, e3, a4, n4, k4, a5, n5, k5, hv⟩ : ∃ e1 e2 e3 a4 n4 k4 a5 n5 k5, v = .agg #[.int .i64 e1, .int .i64 e2, .string e3, .slice a4 n4 k4, .slice a5 n5 k5] := by
        cases ok with
        | true =>
          obtain ⟨e, kv, tv, d, _, rfl, hG⟩ := hO.1 rfl
          obtain ⟨xa, xc, hxf, _⟩ := hG.2.choose_spec.1.es.form
          obtain ⟨ya, yc, hyf⟩ := hG.2.choose_spec.2.tl.form
          simp only at hxf hyf
          subst hxf hyf
          exact ⟨_, _, _, _, _, _, _, _, _, rfl⟩
        | false => exact ⟨_, _, _, _, _, _, _, _, _, (hO.2 rfl).1⟩
      subst hv
      clear hO hb2
      go_wp2_with (fail)
      go_ret
      exact ⟨rfl, below_trans (unhide HB2) (Rule.below_alloc _ _)⟩
    · have hr : r = false := by rw [← unhide HR, decide_eq_false hq]; simp
      subst hr
      by_cases b1 : q < 0
      · go_wp2_with (fail)
        go_ret
        exact ⟨rfl, unhide HB⟩
      · have b2 : (5000 : Int) < q := by omega
        go_wp2_with (fail)
        go_ret
        exact ⟨rfl, unhide HB⟩
end Go.Proofs.YtnchgeiinkaefaaGreatDoor.Bill
end

section
/-
  impl.RuleStep: the iterator over steps, and the loop over it.
-/
namespace Go.Proofs.YtnchgeiinkaefaaGreatDoor.Tiers
set_option linter.unusedVariables false
open Go.RowKit Coin Go.Shelf

attribute [local go_sem] Oper.semAt_some

/-- what is yielded: how many units, and their price -/
def unitsF : List T → Int → List T
  | [], q => []
  | t :: ts, q => if q ≤ 0 then [] else (nOf t.1 q, t.2) :: unitsF ts (q - nOf t.1 q)
/-- all of it added up -/
def accF : List T → Int → Option Int
  | [], out => some out
  | p :: ps, out => if fitB p.1 p.2 = true ∧ addB out (p.1 * p.2) = true then accF ps (out + p.1 * p.2) else none
theorem acc_units : ∀ (l : List T) (q out : Int), accF (unitsF l q) out = stepF l q out
  | [], q, out => rfl
  | t :: ts, q, out => by
    unfold unitsF stepF
    by_cases h : q ≤ 0
    · rw [if_pos h, if_pos h]; rfl
    · rw [if_neg h, if_neg h, accF]
      simp only [acc_units ts]
theorem acc_append : ∀ (a b : List T) (out : Int), accF (a ++ b) out = (accF a out).bind (accF b)
  | [], b, out => rfl
  | p :: ps, b, out => by
    rw [List.cons_append, accF, accF]
    split
    · exact acc_append ps b _
    · rfl
theorem units_end (l : List T) {q : Int} (h : q ≤ 0) : unitsF l q = [] := by cases l <;> simp [unitsF, h]
theorem units_go {l : List T} {k : Nat} {q : Int} (hk : k < l.length) (hq : 0 < q) : unitsF (l.drop k) q = (nOf (l.getD k T0).1 q, (l.getD k T0).2) :: unitsF (l.drop (k + 1)) (q - nOf (l.getD k T0).1 q) := by
  rw [show l.drop k = l.getD k T0 :: l.drop (k + 1) from drop_at hk, unitsF, if_neg (by omega)]
theorem grown_alloc (w : World) (o : Obj) : w.grownBy (w.alloc o) none := ⟨rfl, rfl, rfl, by simp, fun j hj _ => Below.heap_alloc w o j hj⟩

set_option maxRecDepth 100000 in
set_option maxHeartbeats 2000000 in
/-- the closure that stepsOf hands out, for every loop body that keeps what lay below n0 -/
theorem steps1 (n : Nat) (hn : 1 ≤ n) (lp Bq Bt n0 b o cap : Nat) (l : List T) (q : Int) (hl : l.length ≤ 6) (q1 : -1000000000000000 ≤ q) (q2 : q ≤ 1000000000000000) (hb : b < n0) (hat : Hid (∀ k, k < l.length → 0 ≤ (l.getD k T0).1 ∧ (l.getD k T0).1 ≤ 1000000000)) (J Jx : List T → World → Prop)
    (W : World) (hn0 : n0 ≤ W.heap.size) (hJa : AbidesFrom W.heap.size J)
    (hY : ∀ pre x W1, J pre W1 → pre.length < l.length → YieldAt Fence.wide (n - 1) Tryz.prog lp #[.int .i64 x.1, .int .i64 x.2] W1 fun e W' =>
      (e = .returned (.bool true) ∧ J (pre ++ [x]) W' ∧ Below n0 W1 W') ∨ (e = .returned (.bool false) ∧ Jx (pre ++ [x]) W'))
    (hBq : W.cell? ⟨Bq, 0, none⟩ = some (.int .i64 q)) (hBt : W.cell? ⟨Bt, 0, none⟩ = some (.slice (some ⟨b, o, none⟩) l.length cap)) (hc : Hid (TC W b o l)) (h0 : J [] W) :
    CallsIn Fence.wide n Tryz.prog 285 #[.func (.yield lp) #[] #[], .pointer (some ⟨Bq, 0, none⟩), .pointer (some ⟨Bt, 0, none⟩)] W fun e W' => (∃ v, e = .returned v) ∧
      ((∃ ys, ys = unitsF l q ∧ J ys W') ∨ (∃ pre, pre <+: unitsF l q ∧ Jx pre W')) := by
  have HJ := hide hJa
  have HY := hide hY
  have H0 := hide h0
  clear hJa hY h0
  refine callsIn_of_wp Tryz.func285 rfl trivial ?_ rfl
  simp only [Tryz.ntmps285, List.size_toArray, List.length_cons, List.length_nil, Nat.reduceAdd, Nat.reduceSub, Array.replicate_succ, Array.replicate_zero, List.push_toArray, List.append_toArray, List.nil_append, List.cons_append]
  gi_wp2
  gi_loopw [4, 11] (fun t i wr => ∃ (k : Nat) (q' : Int) (pre : List T), k ≤ l.length ∧ i = .int .i64 k ∧ t = .int .i64 q' ∧ -1000000000000000 ≤ q' ∧ q' ≤ 1000000000000000 ∧ Hid (pre.length = k) ∧ Hid (unitsF l q = pre ++ unitsF (l.drop k) q') ∧ Hid (J pre wr) ∧ Hid (Below n0 W wr)) (fun _ i _ => l.length - (intOf i).toNat)
  case atStart => exact ⟨0, q, [], Nat.zero_le _, rfl, rfl, q1, q2, hide rfl, hide rfl, H0, hide (Below.refl _ _)⟩
  case round =>
    obtain ⟨k, q', pre, hk, rfl, rfl, p1, p2, hpl, hu, hJs, hnx⟩ := hrel
    by_cases hlt : k < l.length
    · obtain ⟨c0', c1'⟩ := (unhide hc).2 k hlt
      have c0 : wr.cell? ⟨b, o + k * 2, none⟩ = some (.int .i64 (l.getD k T0).1) := ((unhide hnx).cell (p := ⟨b, o + k * 2, none⟩) hb).trans c0'
      have c1 : wr.cell? ⟨b, o + k * 2 + 1, none⟩ = some (.int .i64 (l.getD k T0).2) := ((unhide hnx).cell (p := ⟨b, o + k * 2 + 1, none⟩) hb).trans c1'
      have hat' := unhide hat k hlt
      clear c0' c1'
      by_cases hpos : 0 < q'
      · have HG := hide (units_go (q := q') hlt hpos)
        generalize l.getD k T0 = t at *
        obtain ⟨x, y⟩ := t
        simp only at c0 c1 hat' HG
        obtain ⟨x1, x2⟩ := hat'
        by_cases hx : 0 < x ∧ x < q'
        · rw [nOf_small hx.1 hx.2] at HG
          have b0 : (x != 0) = true := bne_iff_ne.2 (by omega)
          obtain ⟨hx1, hx2⟩ := hx
          have hm : min q' x = x := by omega
          obtain ⟨fn, tmps, assign, body, hy, hR⟩ := unhide HY pre (x, y) (wr.alloc (.cells #[.int .i64 x, .int .i64 y] 184)) (unhide HJ pre wr _ none (unhide hJs) (grown_alloc _ _) (by simp)) (by have := unhide hpl; omega)
          dsimp only at hy
          have HR := hide hR
          clear hR
          gi_wp2
          refine (unhide HR).mono ?_
          rintro e W3 (⟨rfl, hJ3, hk3⟩ | ⟨rfl, hJx3⟩)
          · have HJ3 := hide hJ3
            have HK3 : Hid (Below n0 W W3) := hide (((unhide hnx).alloc (Nat.le_trans hn0 (unhide hnx).size) _).trans hk3)
            have HU : Hid (unitsF l q = (pre ++ [(x, y)]) ++ unitsF (l.drop (k + 1)) (q' - x)) := hide (by rw [unhide hu, unhide HG]; simp)
            have HL : Hid ((pre ++ [(x, y)]).length = k + 1) := hide (by have := unhide hpl; simp; omega)
            clear hJ3 hk3
            gi_wp2
            go_roundw
            case rel => exact ⟨k + 1, q' - x, pre ++ [(x, y)], by omega, by go_num, rfl, by omega, by omega, HL, HU, HJ3, HK3⟩
            case measure => simp [intOf]; omega
          · have HJ3 := hide hJx3
            clear hJx3
            gi_wp2
            refine bodyPost_ret (results_none rfl _ _ _) rfl ?_
            exact ⟨⟨_, rfl⟩, .inr ⟨_, ⟨unitsF (l.drop (k + 1)) (q' - x), by rw [unhide hu, unhide HG]; simp⟩, unhide HJ3⟩⟩
        · rw [nOf_all hx] at HG
          by_cases hx0 : x = 0
          · have b0 : (x != 0) = false := by simp [hx0]
            clear hx0 hx
            have hq0 : 0 ≤ q' := by omega
            obtain ⟨fn, tmps, assign, body, hy, hR⟩ := unhide HY pre (q', y) (wr.alloc (.cells #[.int .i64 x, .int .i64 y] 184)) (unhide HJ pre wr _ none (unhide hJs) (grown_alloc _ _) (by simp)) (by have := unhide hpl; omega)
            dsimp only at hy
            have HR := hide hR
            clear hR
            gi_wp2
            refine (unhide HR).mono ?_
            rintro e W3 (⟨rfl, hJ3, hk3⟩ | ⟨rfl, hJx3⟩)
            · have HJ3 := hide hJ3
              have HK3 : Hid (Below n0 W W3) := hide (((unhide hnx).alloc (Nat.le_trans hn0 (unhide hnx).size) _).trans hk3)
              have HU : Hid (unitsF l q = (pre ++ [(q', y)]) ++ unitsF (l.drop (k + 1)) (q' - q')) := hide (by rw [unhide hu, unhide HG]; simp)
              have HL : Hid ((pre ++ [(q', y)]).length = k + 1) := hide (by have := unhide hpl; simp; omega)
              clear hJ3 hk3
              gi_wp2
              go_roundw
              case rel => exact ⟨k + 1, q' - q', pre ++ [(q', y)], by omega, by go_num, by simp, by omega, by omega, HL, HU, HJ3, HK3⟩
              case measure => simp [intOf]; omega
            · have HJ3 := hide hJx3
              clear hJx3
              gi_wp2
              refine bodyPost_ret (results_none rfl _ _ _) rfl ?_
              exact ⟨⟨_, rfl⟩, .inr ⟨_, ⟨unitsF (l.drop (k + 1)) (q' - q'), by rw [unhide hu, unhide HG]; simp⟩, unhide HJ3⟩⟩
          · have b0 : (x != 0) = true := bne_iff_ne.2 hx0
            have hm : min q' x = q' := by omega
            have hx2 : q' ≤ x := by omega
            clear hx0 hx
            have hq0 : 0 ≤ q' := by omega
            obtain ⟨fn, tmps, assign, body, hy, hR⟩ := unhide HY pre (q', y) (wr.alloc (.cells #[.int .i64 x, .int .i64 y] 184)) (unhide HJ pre wr _ none (unhide hJs) (grown_alloc _ _) (by simp)) (by have := unhide hpl; omega)
            dsimp only at hy
            have HR := hide hR
            clear hR
            gi_wp2
            refine (unhide HR).mono ?_
            rintro e W3 (⟨rfl, hJ3, hk3⟩ | ⟨rfl, hJx3⟩)
            · have HJ3 := hide hJ3
              have HK3 : Hid (Below n0 W W3) := hide (((unhide hnx).alloc (Nat.le_trans hn0 (unhide hnx).size) _).trans hk3)
              have HU : Hid (unitsF l q = (pre ++ [(q', y)]) ++ unitsF (l.drop (k + 1)) (q' - q')) := hide (by rw [unhide hu, unhide HG]; simp)
              have HL : Hid ((pre ++ [(q', y)]).length = k + 1) := hide (by have := unhide hpl; simp; omega)
              clear hJ3 hk3
              gi_wp2
              go_roundw
              case rel => exact ⟨k + 1, q' - q', pre ++ [(q', y)], by omega, by go_num, by simp, by omega, by omega, HL, HU, HJ3, HK3⟩
              case measure => simp [intOf]; omega
            · have HJ3 := hide hJx3
              clear hJx3
              gi_wp2
              refine bodyPost_ret (results_none rfl _ _ _) rfl ?_
              exact ⟨⟨_, rfl⟩, .inr ⟨_, ⟨unitsF (l.drop (k + 1)) (q' - q'), by rw [unhide hu, unhide HG]; simp⟩, unhide HJ3⟩⟩
      · have hq' : q' ≤ 0 := by omega
        have HE : Hid (unitsF l q = pre) := hide (by rw [unhide hu, units_end _ hq']; simp)
        have HJ2 := fun o => hide (unhide HJ pre wr (wr.alloc o) none (unhide hJs) (grown_alloc _ _) (by simp))
        gi_wp2
        refine bodyPost_ret (results_none rfl _ _ _) rfl ?_
        exact ⟨⟨_, rfl⟩, .inl (by rw [unhide HE]; exact unhide (HJ2 _))⟩
    · have HE : Hid (unitsF l q = pre) := hide (by rw [unhide hu, List.drop_eq_nil_of_le (by omega)]; simp [unitsF])
      gi_wp2
      go_end0
      exact ⟨⟨_, rfl⟩, .inl ⟨_, (unhide HE).symm, unhide hJs⟩⟩

/-- what stepsOf hands out, as the loop over it wants it -/
theorem steps_stops (n : Nat) (hn : 1 ≤ n) (Bq Bt n0 b o cap : Nat) (l : List T) (q : Int) (hl : l.length ≤ 6) (q1 : -1000000000000000 ≤ q) (q2 : q ≤ 1000000000000000) (hb : b < n0) (hat : Hid (∀ k, k < l.length → 0 ≤ (l.getD k T0).1 ∧ (l.getD k T0).1 ≤ 1000000000))
    (w : World) (hBqs : Bq < w.heap.size) (hBts : Bt < w.heap.size) (hn0 : n0 ≤ w.heap.size)
    (hBq : w.cell? ⟨Bq, 0, none⟩ = some (.int .i64 q)) (hBt : w.cell? ⟨Bt, 0, none⟩ = some (.slice (some ⟨b, o, none⟩) l.length cap)) (hc : TC w b o l) :
    SeqStopsK Fence.wide n Tryz.prog 285 #[.pointer (some ⟨Bq, 0, none⟩), .pointer (some ⟨Bt, 0, none⟩)] (fun x : T => #[Value.int .i64 x.1, Value.int .i64 x.2]) (Below n0) (fun ys => ys = unitsF l q) (fun pre => pre <+: unitsF l q) l.length w :=
  fun lp J Jx W hW hJ _ hY h0 =>
    steps1 n hn lp Bq Bt n0 b o cap l q hl q1 q2 hb hat J Jx W (Nat.le_trans hn0 hW.size) hJ hY ((hW.cell (p := ⟨Bq, 0, none⟩) hBqs).trans hBq) ((hW.cell (p := ⟨Bt, 0, none⟩) hBts).trans hBt) (hide (hc.kept hW)) h0

/-- impl.stepsOf -/
theorem stepsOf (n : Nat) (v : Value) (hv : v.oneCell' = true) (q : Int) (w : World) :
    CallsIn Fence.wide n Tryz.prog 284 #[v, .int .i64 q] w fun e w' => e = .returned (.func (.func 285) #[] #[.pointer (some ⟨w.heap.size + 1, 0, none⟩), .pointer (some ⟨w.heap.size, 0, none⟩)]) ∧ w' = (w.alloc (.cells #[v] 75)).alloc (.cells #[.int .i64 q] 3) := by
  refine callsIn_of_wp Tryz.func284 rfl trivial ?_ rfl
  simp only [Tryz.ntmps284, List.size_toArray, List.length_cons, List.length_nil, Nat.reduceAdd, Nat.reduceSub, Array.replicate_succ, Array.replicate_zero, List.push_toArray, List.append_toArray, List.nil_append, List.cons_append]
  gi_wp2
  trace_state
  go_ret
  exact ⟨rfl, rfl⟩
end Go.Proofs.YtnchgeiinkaefaaGreatDoor.Tiers
end
