/-
  Texts of this proof laid together, in build order; each says of itself what it holds.
-/
import Derived.Test.YtogkkkollmcijaaGreatDoorZan
import Derived.Test.YtogkkkollmcijaaGreatDoorZak
import Derived.Test.YtogkkkollmcijaaGreatDoorZag
import Derived.Deep.AppendLies
import Derived.Laws.AppendOwnNone
import Derived.Test.YtogkkkollmcijaaGreatDoorZam
import Derived.Test.YtogkkkollmcijaaGreatDoorZaj
section
/-
  impl.writeExpr, impl.RuleText.
-/
namespace Go.Proofs.YtogkkkollmcijaaGreatDoor.Rule
set_option linter.unusedVariables false
open Go.RowKit RegIn
open Tiers (T T0 TR hide unhide below_trans)
open Kinds hiding hide unhide below_trans ext_toList
open _root_.Go.Proofs.YtogkkkollmcijaaGreatDoor.Text (Tens itoaI)

def WrIC (d : Nat) : Prop := ∀ (lo hi : Nat) (v : Value) (e : Ex) (w : World), EV lo hi w d v e → hi ≤ w.heap.size → allB e = true → cnt e ≤ 1000 → Tens w →
  Calls Tryz.prog 15 #[v] w fun x w' => x = .returned (.string (bytesOf (wr e))) ∧ Below w.heap.size w w'

abbrev sV (x : List UInt8) : Value := .string (bytesOf x)
/-- a row of words of the call's own -/
def SO (W : World) (B : Nat) (v : Value) (ws : List (List UInt8)) : Prop := W.ownsRow B 9 1 v ws.length (ws.map sV)

theorem infoS' : ∃ i, Tryz.prog.info? 9 = some i ∧ i.zero = some (.string ByteArray.empty) ∧ i.size = 1 ∧ i.bytes = 16 := by
  obtain ⟨i, hi, h2⟩ := Option.map_eq_some_iff.1 infoS
  simp only [Prod.mk.injEq] at h2
  exact ⟨i, hi, h2.1, h2.2.1, h2.2.2⟩
theorem SO.nil (W : World) (B : Nat) : SO W B (.slice none 0 0) [] := ⟨by simp, .inl ⟨rfl, rfl⟩⟩
theorem SO.blk {W : World} {B : Nat} {v : Value} {ws : List (List UInt8)} (h : SO W B v ws) : ∀ q, v.ownBlock = some q → B ≤ q ∧ q < W.heap.size := World.ownsRow.lt h
theorem SO.kept {W W' : World} {B : Nat} {v : Value} {ws : List (List UInt8)} (h : SO W B v ws) (hb : Below W.heap.size W W') : SO W' B v ws :=
  World.ownsRow.kept (row := none) h ⟨hb.os, hb.tape, hb.output, hb.size, fun j hj _ => hb.block j hj⟩ (by
    cases h1 : v.ownBlock with
    | none => exact .inl rfl
    | some q => exact .inr (by simp))
theorem SO.form {W : World} {B : Nat} {v : Value} {ws : List (List UInt8)} (h : SO W B v ws) : ∃ a c, v = .slice a ws.length c := by
  obtain ⟨h1, h2⟩ := h
  rcases h2 with ⟨rfl, h0⟩ | ⟨g, cap, cur, rfl, _⟩
  · exact ⟨none, 0, by rw [h0]⟩
  · exact ⟨_, _, rfl⟩
theorem below_grown {B : Nat} {a b c : World} {r : Option Nat} (h : Below B a b) (hg : b.grownBy c r) (hB : B ≤ a.heap.size) (hr : ∀ q, r = some q → B ≤ q) : Below B a c :=
  h.grown hg (Nat.le_trans hB h.size) hr

theorem newOne (w : World) (X : List UInt8) (t : TypeId) : ∀ j y, [X][j]? = some y → (w.alloc (.cells #[.string (bytesOf X)] t)).cell? ⟨w.heap.size, j, none⟩ = some (sV y)
  | 0, y, hy => by
    obtain rfl : X = y := by simpa using hy
    have e1 := (MapKept.heap_alloc w (.cells #[.string (bytesOf X)] t)).1
    simp only [World.cell?]
    rw [e1]; rfl
section
variable {ops : Array Oper} {o : Oper} {a : Act} {Q : Exit → Act → World → Prop}
theorem listAppS (w : World) {rest : List Oper} (hgd : o.guard = none) (s x : Operand) (ho : o.op = .call { callee := .builtin .append, args := #[s, x], argTypes := #[48, 48] })
    (B N c n k : Nat) (v : Value) (ws new : List (List UInt8)) (hn : new.length = n) (hk : ws.length = k) (hs : a.eval s = v) (hv : SO w B v ws) (hx : a.eval x = .slice (some ⟨N, 0, none⟩) n c) (hN : ∀ j y, new[j]? = some y → w.cell? ⟨N, j, none⟩ = some (sV y)) (hne : new ≠ []) (hl : ws.length + new.length ≤ 1000) (hB : B ≤ w.heap.size)
    (h : ∀ g cap w', SO w' B (.slice (some ⟨g, 0, none⟩) (k + n) cap) (ws ++ new) → w.grownBy w' v.ownBlock → g < w'.heap.size → wpList Tryz.prog ops Q rest (a.put o.dst (.slice (some ⟨g, 0, none⟩) (k + n) cap)) w') :
    wpList Tryz.prog ops Q (o :: rest) a w := by
  subst hn hk
  obtain ⟨i, hi, hz, hsz, hby⟩ := infoS'
  refine wpList_append_lies (P := Tryz.prog) w hgd s x 48 ho B 9 i _ 1 16 Tryz.underlying48 hi hz hsz hby rfl (by omega) v ws.length (ws.map sV) hs hv ⟨N, 0, none⟩ new.length c (new.map sV) hx (by simp) ?_ ?_ (List.length_pos_iff.2 hne) (by unfold maxLen; omega) (by omega) hB _ rfl ?_
  · intro j u hu
    rw [List.getElem?_map] at hu
    obtain ⟨y, hy, rfl⟩ := Option.map_eq_some_iff.1 hu
    rw [Addr.add_lit, Nat.zero_add]
    exact hN j y hy
  · intro u hu
    obtain ⟨y, _, rfl⟩ := List.mem_map.1 hu
    rfl
  · intro g cap w' h1 h2 h3 h4
    refine h g cap w' ?_ h2 h4
    unfold SO
    rw [List.map_append, List.length_append]
    exact h1
theorem listAppNo (w : World) {rest : List Oper} (hgd : o.guard = none) (s x : Operand) (ho : o.op = .call { callee := .builtin .append, args := #[s, x], argTypes := #[48, 48] })
    (B : Nat) (v : Value) (ws : List (List UInt8)) (hs : a.eval s = v) (hv : SO w B v ws) (hx : a.eval x = .slice none 0 0)
    (h : wpList Tryz.prog ops Q rest (a.put o.dst v) w) :
    wpList Tryz.prog ops Q (o :: rest) a w := by
  obtain ⟨i, hi, hz, hsz, hby⟩ := infoS'
  exact wpList_append_own_none (P := Tryz.prog) hgd s x 48 ho B 9 i 1 Tryz.underlying48 hi v ws.length (ws.map sV) hs hv hx h
theorem listAppAny (w : World) {rest : List Oper} (hgd : o.guard = none) (s x : Operand) (ho : o.op = .call { callee := .builtin .append, args := #[s, x], argTypes := #[48, 48] })
    (B B' : Nat) (v vo : Value) (ws new : List (List UInt8)) (hs : a.eval s = v) (hv : SO w B v ws) (hx : a.eval x = vo) (hR : SR w B' vo new) (hne : ws ++ new ≠ []) (hl : ws.length + new.length ≤ 1000) (hB : B ≤ w.heap.size)
    (h : ∀ g cap w', SO w' B (.slice (some ⟨g, 0, none⟩) (ws ++ new).length cap) (ws ++ new) → w.grownBy w' v.ownBlock → g < w'.heap.size → wpList Tryz.prog ops Q rest (a.put o.dst (.slice (some ⟨g, 0, none⟩) (ws ++ new).length cap)) w') :
    wpList Tryz.prog ops Q (o :: rest) a w := by
  rcases hR with ⟨rfl, rfl⟩ | ⟨hn, b, cap, rfl, hc, h1, h2, h3⟩
  · refine listAppNo w hgd s x ho B v ws hs hv hx ?_
    have hv' := hv
    have hb := hv.blk
    obtain ⟨e1, e2⟩ := hv
    rw [List.append_nil] at *
    rcases e2 with ⟨rfl, h0⟩ | ⟨g, cap, cur, rfl, _⟩
    · exact absurd (List.length_eq_zero_iff.1 h0) hne
    · exact h g cap w hv' (World.grownBy.refl _ _) (hb g rfl).2
  · refine listAppS w hgd s x ho B b cap new.length ws.length v ws new rfl rfl hs hv hx h3 hn hl hB ?_
    rw [List.length_append] at h
    exact h
end
theorem SO.cells {W : World} {B g n cap : Nat} {ws : List (List UInt8)} (h : SO W B (.slice (some ⟨g, 0, none⟩) n cap) ws) : ∀ j x, ws[j]? = some x → W.cell? ⟨g, j, none⟩ = some (sV x) := fun j x hx => by
  have := World.ownsRow.cells h rfl j (sV x) (by rw [List.getElem?_map, hx]; rfl)
  rw [Addr.add_lit, Nat.zero_add] at this
  exact this
theorem SO.cap {W : World} {B g n cap : Nat} {ws : List (List UInt8)} (h : SO W B (.slice (some ⟨g, 0, none⟩) n cap) ws) : ws.length ≤ cap := by
  obtain ⟨h1, h2⟩ := h
  rcases h2 with ⟨h3, _⟩ | ⟨g', cap', cur, h3, hB, hb, h4⟩
  · cases h3
  · simp only [Value.slice.injEq] at h3
    obtain ⟨_, _, rfl⟩ := h3
    exact h4.1

theorem bytes_map (l : List (List UInt8)) : (l.map bytesOf).map (·.data.toList) = l := by
  rw [List.map_map]
  have : ((fun x : ByteArray => x.data.toList) ∘ bytesOf) = id := by funext x; simp [bytesOf]
  rw [this, List.map_id]
theorem own_len {k n : Int} {m : ByteArray} {nk : Nat} {ts : List (Int × Int)} (h : nodeB k n m nk ts = true) : (ownW k n m ts).length ≤ 6 := by
  unfold ownW
  split
  · simp
  split
  · simp
  split
  · rename_i h1 h2 h3
    have := (tier_ok ((node_more h (by omega) (by omega)).2.2.2.2.2.2.2.1 h3)).1
    simpa using this
  · simp
/-- the words of a node, joined -/
theorem join_node {k n : Int} {m : ByteArray} {ks : List Ex} {ts : List (Int × Int)} (h : nodeB k n m ks.length ts = true) :
    ks.map wr ++ ownW k n m ts ≠ [] ∧ (wordK k = ByteArray.empty → Lib.join (ks.map wr ++ ownW k n m ts) [32] = wr (.mk k n m ks ts)) ∧ (wordK k ≠ ByteArray.empty → wr (.mk k n m ks ts) = 40 :: (wordL k ++ 32 :: (Lib.join (ks.map wr ++ ownW k n m ts) [32] ++ [41]))) ∧ (Lib.join (ks.map wr ++ ownW k n m ts) [32]).length ≤ (wr (.mk k n m ks ts)).length := by
  rw [wr]
  by_cases k1 : k = 1
  · subst k1
    obtain ⟨a1, _, _, _⟩ := node_num h
    obtain rfl := List.length_eq_zero_iff.1 a1
    have e : Lib.join (([] : List Ex).map wr ++ ownW 1 n m ts) [32] = Lib.itoa n := by simp [ownW, Lib.join_one]
    rw [e, if_pos rfl]
    exact ⟨by simp [ownW], fun _ => rfl, fun h => absurd (by decide) h, Nat.le_refl _⟩
  by_cases k2 : k = 2
  · subst k2
    obtain ⟨a1, _, _, _⟩ := node_name h
    obtain rfl := List.length_eq_zero_iff.1 a1
    have e : Lib.join (([] : List Ex).map wr ++ ownW 2 n m ts) [32] = m.data.toList := by simp [ownW, Lib.join_one]
    rw [e, if_neg (by omega), if_pos rfl]
    exact ⟨by simp [ownW], fun _ => rfl, fun h => absurd (by decide) h, Nat.le_refl _⟩
  obtain ⟨h3, a1, a2, a3, a4, a5, a6, a7, a8⟩ := node_more h k1 k2
  have hks : ks ≠ [] := fun e => by rw [e] at a2; simp at a2
  have hj := wordsW_eq (k := k) (n := n) (m := m) (ks := ks) (ts := ts) h3.1 a8 hks
  rw [if_neg k1, if_neg k2]
  have e : 40 :: (wordL k ++ (wrS ks ++ (wrO k n ts ++ [41]))) = 40 :: (wordL k ++ 32 :: (Lib.join (ks.map wr ++ ownW k n m ts) [32] ++ [41])) := by
    rw [← List.append_assoc (wrS ks), ← hj]; simp
  refine ⟨by simp [hks], fun h => ?_, fun _ => e, by rw [e]; simp; omega⟩
  exfalso
  have : k = 3 ∨ k = 4 ∨ k = 5 ∨ k = 6 ∨ k = 7 ∨ k = 8 ∨ k = 9 ∨ k = 10 := by omega
  rcases this with rfl | rfl | rfl | rfl | rfl | rfl | rfl | rfl
  all_goals exact absurd (congrArg ByteArray.size h) (by decide)

set_option maxRecDepth 20000 in
set_option maxHeartbeats 1600000 in
theorem wrI_step {d : Nat} (H : ∀ d', d = d' + 1 → WrIC d') : WrIC d := by
  rintro lo hi v e w ⟨kv, tv, rfl, hz, hk, ht⟩ hhi ha hc hT
  obtain ⟨ka, kc, rfl, hkl⟩ := hk.form
  obtain ⟨ta, tc, rfl⟩ := ht.form
  have hl := wr_len e ha
  have hcn := cnt_eq e
  obtain ⟨k, n, m, ks, ts⟩ := e
  rw [allB, Bool.and_eq_true] at ha
  obtain ⟨hn, hks⟩ := ha
  simp only [Ex.kind, Ex.num, Ex.meter, Ex.kids, Ex.tiers] at *
  have h10 : 1 ≤ k ∧ k ≤ 10 := by
    unfold nodeB at hn
    simp only [Bool.and_eq_true, decide_eq_true_eq] at hn
    omega
  have hk3 : ks.length ≤ 3 := by
    unfold nodeB at hn
    simp only [Bool.and_eq_true, decide_eq_true_eq] at hn
    have h3 : kidsK k ≤ 3 := by unfold kidsK; repeat' split
                                all_goals omega
    omega
  have n5 := new5 w (.int .i64 k) (.int .i64 n) (.string m) (.slice ka ks.length kc) (.slice ta ts.length tc) 26
  obtain ⟨W0, hW0⟩ : ∃ W0, w.alloc (.cells #[.int .i64 k, .int .i64 n, .string m, .slice ka ks.length kc, .slice ta ts.length tc] 26) = W0 := ⟨_, rfl⟩
  have B0 : Hid (Below w.heap.size w W0) := hide (by rw [← hW0]; exact below_alloc _ _)
  have hs0 : W0.heap.size = w.heap.size + 1 := by rw [← hW0]; simp
  rw [hW0] at n5
  have N5 := hide n5
  have HW0 := hide hW0
  have hkv := kindV_in h10
  obtain ⟨c0, c1, c2, c3, c4⟩ := n5
  clear hW0
  go_enter Tryz.func15, Tryz.ntmps15
  go_wp2_with (fail)
  rw [unhide HW0]
  refine (kindOf _ _).mono ?_
  rintro x w1 ⟨rfl, hw1⟩
  obtain rfl : W0 = w1 := hw1.symm
  rw [hkv]
  go_wp2_with (fail)
  have HKS := hide hk
  have HTT : Hid (Tens W0) := hide (hT.kept (unhide B0))
  have HH := hide H
  have HAL := hide hks
  have HEV := hide ht
  clear hk ht H hT hks c0 c1 c2 c3 c4
  go_loopw [4, 15] (fun t i wr => ∃ (j : Nat) (v : Value), j ≤ ks.length ∧ i = .int .i64 j ∧ t = v ∧ Hid (SO wr (w.heap.size + 1) v ((ks.take j).map Rule.wr)) ∧ Hid (Below W0.heap.size W0 wr)) (fun _ i _ => ks.length - (intOf i).toNat)
  case atStart => exact ⟨0, _, by omega, rfl, rfl, hide (SO.nil _ _), hide (Below.refl _ _)⟩
  case round =>
    obtain ⟨j, v, hj, rfl, hvt, hso, hb⟩ := hrel
    have hzr := (unhide hb).size
    have hsl : ((ks.take j).map Rule.wr).length = j := by simp; omega
    obtain ⟨va, vc, hvf⟩ := (unhide hso).form
    rw [hsl] at hvf
    subst hvf hvt
    by_cases hlt : j < ks.length
    · obtain ⟨d', b, o, cap, kv', tv', rfl, hv, hbb, ⟨c0', c1', c2', c3', c4'⟩, hev⟩ := ((unhide HKS).kept (same_below (below_trans (unhide B0) (unhide hb)) hhi)).at hlt
      simp only [Value.slice.injEq, true_and] at hv
      obtain ⟨rfl, rfl⟩ := hv
      obtain ⟨xa, xc, ya, yc, hform⟩ := hev.form
      obtain ⟨e4, e5⟩ : kv' = .slice xa (ks.getD j E0).kids.length xc ∧ tv' = .slice ya (ks.getD j E0).tiers.length yc := by simpa [exV] using hform
      subst e4 e5
      clear hform
      have HEV2 : Hid (∀ ob, EV lo hi (wr.alloc ob) d' (.agg #[.int .i64 (ks.getD j E0).kind, .int .i64 (ks.getD j E0).num, .string (ks.getD j E0).meter, .slice xa (ks.getD j E0).kids.length xc, .slice ya (ks.getD j E0).tiers.length yc]) (ks.getD j E0)) := hide (fun ob => hev.kept (same_below (below_alloc _ _) (by omega)))
      have HKID := hide (unhide HH d' rfl)
      have HA := hide (allL_at (unhide HAL) hlt)
      have hcj := cntL_at hlt
      have i1 : (j : Int) < (ks.length : Int) := by omega
      have HTK : Hid (∀ x, Rule.wr (ks.getD j E0) = x → (ks.take (j + 1)).map Rule.wr = (ks.take j).map Rule.wr ++ [x]) := hide (fun x hx => by rw [take_at hlt, List.map_append, ← hx]; rfl)
      have HT5 : Hid (∀ ob, Tens (wr.alloc ob)) := hide (fun ob => ((unhide HTT).kept (unhide hb)).kept (below_alloc _ _))
      clear hev
      generalize ks.getD j E0 = ex at *
      obtain ⟨xk, xn, xm, xks, xts⟩ := ex
      simp only [Ex.kind, Ex.num, Ex.meter, Ex.kids, Ex.tiers] at c0' c1' c2' c3' c4' HEV2
      go_wp2_with (fail)
      refine (unhide HKID lo hi _ _ _ (unhide HEV2 _) (by simp; omega) (unhide HA) (by omega) (unhide HT5 _)).mono ?_
      rintro x w2 ⟨rfl, hb2⟩
      have HB2 := hide (below_trans (below_trans (unhide hb) (below_alloc _ _)) hb2)
      have HS2 := hide ((unhide hso).kept (below_trans (below_alloc _ _) hb2))
      clear hb2 hso c0' c1' c2' c3' c4' HEV2 HT5
      generalize hX : Rule.wr (.mk xk xn xm xks xts) = X at *
      have HTX := hide (unhide HTK X rfl)
      clear HTK hX
      generalize (ks.take j).map Rule.wr = ws at *
      have hz2 := (unhide HB2).size
      have HN1 := hide (newOne w2 X 9)
      have HS3 := hide ((unhide HS2).kept (below_alloc w2 (.cells #[.string (bytesOf X)] 9)))
      have HG : Hid (∀ w', (w2.alloc (.cells #[.string (bytesOf X)] 9)).grownBy w' (Value.slice va j vc).ownBlock → Below W0.heap.size W0 w') := hide (fun w' h2 => below_grown (below_trans (unhide HB2) (below_alloc _ _)) h2 (Nat.le_refl _) (fun q hq => by have := (unhide HS3).blk q hq; omega))
      go_wp2_with (first | (at_builtin; refine listAppS _ rfl _ _ rfl (w.heap.size + 1) w2.heap.size 1 1 j (.slice va j vc) ws [X] rfl hsl rfl (unhide HS3) rfl (unhide HN1) (by simp) (by simp; omega) (by simp; omega) ?_; intro g cap w' h1 h2 h3; have S6 := hide h1; have B6 := hide (unhide HG w' h2); clear h1 h2 h3) | fail)
      exact ⟨⟨j + 1, _, by omega, by go_num, rfl, by rw [unhide HTX]; exact S6, B6⟩, by simp [intOf]; omega⟩
    · obtain rfl : j = ks.length := by omega
      obtain ⟨n0, n1, n2, n3, n4⟩ := unhide N5
      have hwb : w.heap.size < W0.heap.size := by omega
      have r0 := ((unhide hb).cell (p := ⟨w.heap.size, 0, none⟩) hwb).trans n0
      have r1 := ((unhide hb).cell (p := ⟨w.heap.size, 1, none⟩) hwb).trans n1
      have r2 := ((unhide hb).cell (p := ⟨w.heap.size, 2, none⟩) hwb).trans n2
      have r3 := ((unhide hb).cell (p := ⟨w.heap.size, 3, none⟩) hwb).trans n3
      have r4 := ((unhide hb).cell (p := ⟨w.heap.size, 4, none⟩) hwb).trans n4
      clear n0 n1 n2 n3 n4
      have mm1 := mLook h10
      have mm2 := mOwn h10
      have mm3 := eOwn h10
      have hso' := unhide hso
      rw [List.take_length] at hso'
      have HSO := hide hso'
      obtain ⟨j1, j2, j3, j4⟩ := join_node hn
      have ho6 := own_len hn
      have HJ1 := hide j1
      have HJ2 := hide j2
      have HJ3 := hide j3
      have hwl8 : (wordK k).size ≤ 8 := by
        rcases cases10 h10 with rfl | rfl | rfl | rfl | rfl | rfl | rfl | rfl | rfl | rfl <;> decide
      clear j1 j2 j3 hso hso'
      go_wp2_with (fail)
      refine (ownI h10 n m _ lo hi ta ks.length tc ts wr hn ((unhide HEV).kept (same_below (below_trans (unhide B0) (unhide hb)) hhi)) (by omega) ((unhide HTT).kept (unhide hb))).mono ?_
      rintro x w2 ⟨vo, rfl, hsr, hb2⟩
      have HSR := hide hsr
      have B2 := hide (below_trans (unhide hb) hb2)
      have S2 := hide ((unhide HSO).kept hb2)
      have hz2 := (unhide B2).size
      generalize hW : ks.map Rule.wr = ws at *
      have hwl : ws.length = ks.length := by rw [← hW]; simp
      generalize hO : ownW k n m ts = os at *
      have HG : Hid (∀ w', w2.grownBy w' (Value.slice va ks.length vc).ownBlock → Below W0.heap.size W0 w') := hide (fun w' h2 => below_grown (unhide B2) h2 (Nat.le_refl _) (fun q hq => by have := (unhide S2).blk q hq; omega))
      clear hb2 hb hsr HSO r0 r1 r2 r3 r4
      go_wp2_with (first | (at_builtin; refine listAppAny _ rfl _ _ rfl (w.heap.size + 1) wr.heap.size _ vo ws os rfl (unhide S2) rfl (unhide HSR) (unhide HJ1) (by omega) (by omega) ?_; intro g cap w3 h1 h2 h3; have S3 := hide h1; have B3 := hide (unhide HG w3 h2); have hg3 := h3; clear h1 h2 h3) | fail)
      have hJ := Tryz.strings_Join g 0 cap ((ws ++ os).map bytesOf) ⟨#[32]⟩ w3 (fun i x hx => by
        rw [List.getElem?_map] at hx
        obtain ⟨y, hy, rfl⟩ := Option.map_eq_some_iff.1 hx
        rw [Nat.zero_add]
        exact (unhide S3).cells i y hy) hg3 (by simp; omega) (by have := (unhide S3).cap; simpa using this) (by rw [bytes_map]; show (Lib.join (ws ++ os) [32]).length ≤ _; omega)
      rw [bytes_map] at hJ
      have e1 : ((ws ++ os).map bytesOf).length = ks.length + os.length := by simp [hwl]
      have e2 : Lib.join (ws ++ os) (⟨#[32]⟩ : ByteArray).data.toList = Lib.join (ws ++ os) [32] := rfl
      rw [e1, e2] at hJ
      generalize hJn : Lib.join (ws ++ os) [32] = J at *
      have HJ := hide hJ
      clear hJ e1 e2 hJn S3 HJ1 HSR S2 HG
      refine (unhide HJ).mono ?_
      rintro x w4 ⟨rfl, hb4⟩
      have B4 := hide (below_trans (unhide B3) hb4)
      have hJl : J.length ≤ 200000 := by omega
      have fl : ∀ (w : World), (Instr.field 64 (.agg #[.string (wordK k), .int .i64 (kidsK k)]) 0).run Tryz.prog w = .ok (.string (wordK k)) w := fun w => by kernel_rfl
      clear hb4 B3 HJ mm2 mm3
      by_cases hwe : wordK k = ByteArray.empty
      · have hxe : (wordK k).toList.isEmpty = true := by rw [hwe, Lib.toList_data]; rfl
        have HE := hide (unhide HJ2 hwe)
        clear hwe HJ2 HJ3
        go_wp2_with (first | (go_at_call 132; refine (Kinds.look (wordK k) (kidsK k) _).mono ?_; rintro x w6 ⟨rfl, hb6⟩; have B6 := hide (below_trans (unhide B4) hb6); clear hb6) | fail)
        go_ret
        exact ⟨by rw [← unhide HE]; rfl, below_trans (unhide B0) (unhide B6)⟩
      · have hxe : (wordK k).toList.isEmpty = false := by
          cases h : (wordK k).toList.isEmpty
          · rfl
          · exfalso
            refine hwe ?_
            have : (wordK k).toList = [] := List.isEmpty_iff.1 h
            rw [Lib.toList_data] at this
            apply ByteArray.ext
            apply Array.ext'
            simpa using this
        have HE := hide (unhide HJ3 hwe)
        clear hwe HJ2 HJ3
        go_wp2_with (first | (go_at_call 132; refine (Kinds.look (wordK k) (kidsK k) _).mono ?_; rintro x w6 ⟨rfl, hb6⟩; have B6 := hide (below_trans (unhide B4) hb6); clear hb6) | fail)
        go_ret
        refine ⟨?_, below_trans (unhide B0) (unhide B6)⟩
        rw [unhide HE]
        refine congrArg (fun z => Ending.returned (Value.string z)) ?_
        apply ByteArray.ext
        simp [bytesOf, wordL]
theorem wrI_all : ∀ d, WrIC d
  | 0 => wrI_step (fun d' h => by omega)
  | d + 1 => wrI_step (fun d' h => by
    obtain rfl : d = d' := by omega
    exact wrI_all d)

set_option maxRecDepth 20000 in
/-- impl.RuleText -/
theorem textI (d lo hi : Nat) (v : Value) (e : Ex) (w : World) (h : EV lo hi w d v e) (hhi : hi ≤ w.heap.size) (hw : wt e ≤ 1048576) (hT : Tens w) :
    Calls Tryz.prog 5 #[v] w fun x w' => x = .returned (.string (bytesOf (textE e))) ∧ Below w.heap.size w w' := by
  obtain ⟨ka, kc, ta, tc, rfl⟩ := h.form
  have HE := hide h
  have HT := hide hT
  generalize hr : textE e = r
  have HR := hide hr
  clear h hr hT
  have hN := new5 w (.int .i64 e.kind) (.int .i64 e.num) (.string e.meter) (.slice ka e.kids.length kc) (.slice ta e.tiers.length tc) 26
  obtain ⟨W0, hW0⟩ : ∃ W0, w.alloc (.cells #[.int .i64 e.kind, .int .i64 e.num, .string e.meter, .slice ka e.kids.length kc, .slice ta e.tiers.length tc] 26) = W0 := ⟨_, rfl⟩
  have B0 : Hid (Below w.heap.size w W0) := hide (by rw [← hW0]; exact below_alloc _ _)
  have hs0 : W0.heap.size = w.heap.size + 1 := by rw [← hW0]; simp
  rw [hW0] at hN
  have HW0 := hide hW0
  have N5 := hide hN
  obtain ⟨c0, c1, c2, c3, c4⟩ := hN
  clear hW0
  go_enter Tryz.func5, Tryz.ntmps5
  go_wp2_with (fail)
  rw [unhide HW0]
  refine (okI d lo hi _ e W0 ((unhide HE).kept (same_below (unhide B0) hhi)) (by omega) hw).mono ?_
  rintro x w1 ⟨rfl, hb1⟩
  have B1 := hide (below_trans (unhide B0) hb1)
  have hwb : w.heap.size < W0.heap.size := by omega
  obtain ⟨n0, n1, n2, n3, n4⟩ := unhide N5
  have r0 := (hb1.cell (p := ⟨w.heap.size, 0, none⟩) hwb).trans n0
  have r1 := (hb1.cell (p := ⟨w.heap.size, 1, none⟩) hwb).trans n1
  have r2 := (hb1.cell (p := ⟨w.heap.size, 2, none⟩) hwb).trans n2
  have r3 := (hb1.cell (p := ⟨w.heap.size, 3, none⟩) hwb).trans n3
  have r4 := (hb1.cell (p := ⟨w.heap.size, 4, none⟩) hwb).trans n4
  clear hb1 c0 c1 c2 c3 c4 n0 n1 n2 n3 n4
  cases hk : okE e
  · have hr : r = [] := by rw [← unhide HR, textE, hk]; rfl
    subst hr
    go_wp2_with (fail)
    go_ret
    exact ⟨rfl, unhide B1⟩
  · have hr : r = wr e := by rw [← unhide HR, textE, hk]; rfl
    obtain ⟨o1, o2, _⟩ := ok_all hk
    have HX := hide hr
    clear hr hk
    go_wp2_with (fail)
    refine (wrI_all d lo hi _ e w1 ((unhide HE).kept (same_below (unhide B1) hhi)) (Nat.le_trans hhi (unhide B1).size) o1 (by omega) ((unhide HT).kept (unhide B1))).mono ?_
    rintro x w2 ⟨rfl, hb2⟩
    have B2 := hide (below_trans (unhide B1) hb2)
    clear hb2 r0 r1 r2 r3 r4
    rw [← unhide HX]
    go_wp2_with (fail)
    go_ret
    exact ⟨rfl, unhide B2⟩
end Go.Proofs.YtogkkkollmcijaaGreatDoor.Rule
end

section
/-
  spec.RuleRead.
-/
namespace Go.Proofs.YtogkkkollmcijaaGreatDoor.Rule
set_option linter.unusedVariables false
open Go.RowKit
open Boxes (At hide unhide)
open Tiers (T T0)

/-- e is the expression whose text this is -/
def IsRule (t : List UInt8) (e : Ex) : Prop := okE e = true ∧ wr e = t ∧ t.length ≤ 600
theorem wr_ne (e : Ex) (h : allB e = true) : wr e ≠ [] := by
  obtain ⟨k, n, m, ks, ts⟩ := e
  rw [allB, Bool.and_eq_true] at h
  rw [wr]
  by_cases k1 : k = 1
  · rw [if_pos k1]; exact itoa_ne n
  rw [if_neg k1]
  by_cases k2 : k = 2
  · rw [if_pos k2]; subst k2; exact (letters_of (node_name h.1).2.1).2.2
  · rw [if_neg k2]; simp
theorem IsRule.ne {t : List UInt8} {e : Ex} (h : IsRule t e) : t ≠ [] := by rw [← h.2.1]; exact wr_ne e (ok_all h.1).1
theorem IsRule.read {t : List UInt8} {e : Ex} (h : IsRule t e) : exprS 8 t = some (e, []) := by
  obtain ⟨h1, h2, h3⟩ := ok_all h.1
  have := expr_read 8 e [] h1 h3 (.inl rfl)
  rwa [List.append_nil, h.2.1] at this
theorem IsRule.one {t : List UInt8} {e e' : Ex} (h : IsRule t e) (h' : IsRule t e') : e = e' := by
  have := h.read.symm.trans h'.read
  simp only [Option.some.injEq, Prod.mk.injEq, and_true] at this
  exact this
theorem isRule_of {t : List UInt8} {e : Ex} (h : textE e = t) (hn : t ≠ []) (hl : t.length ≤ 600) : IsRule t e := by
  unfold textE at h
  split at h
  · next ho => exact ⟨ho, h, hl⟩
  · exact absurd h.symm hn
theorem left_all (s : ByteArray) : left s 0 = s.data.toList := by unfold left; simp

/-- what RuleRead hands out -/
def ReadOut (w w' : World) (t : List UInt8) (v : Value) (ok : Bool) : Prop :=
  (ok = true → ∃ e d, IsRule t e ∧ EV w.heap.size w'.heap.size w' d v e) ∧ (ok = false → v = .agg #[.int .i64 0, .int .i64 0, .string ⟨#[]⟩, .slice none 0 0, .slice none 0 0] ∧ ∀ e, ¬ IsRule t e)

set_option maxRecDepth 20000 in
set_option maxHeartbeats 1600000 in
theorem readS (s : ByteArray) (w : World) (hs : s.size ≤ maxLen) :
    Calls Tryz.prog 12 #[.string s] w fun x w' => ∃ v ok, x = .returned (.tuple #[v, .bool ok]) ∧ ReadOut w w' s.data.toList v ok ∧ Below w.heap.size w w' := by
  unfold maxLen at hs
  have hlen : s.data.toList.length = s.size := Array.length_toList
  by_cases hl : 600 < s.size
  · have HN : Hid (∀ e, ¬ IsRule s.data.toList e) := hide (fun e h => by have := h.2.2; omega)
    have i1 : (600 : Int) < (s.size : Int) := by omega
    go_enter Tryz.func12, Tryz.ntmps12
    go_wp2_with (fail)
    have oo := At.new w zero5L.toArray 26
    obtain ⟨t0, _⟩ := oo 0 _ rfl
    obtain ⟨t1, _⟩ := oo 1 _ rfl
    obtain ⟨t2, _⟩ := oo 2 _ rfl
    obtain ⟨t3, _⟩ := oo 3 _ rfl
    obtain ⟨t4, _⟩ := oo 4 _ rfl
    exact bodyPost_ret (v := .tuple #[.agg #[.int .i64 0, .int .i64 0, .string ⟨#[]⟩, .slice none 0 0, .slice none 0 0], .bool false]) (by simp [results, Tryz.results12, go_sem, t0, t1, t2, t3, t4]) rfl ⟨_, false, rfl, ⟨fun h => (by cases h), fun _ => ⟨rfl, unhide HN⟩⟩, below_alloc _ _⟩
  · have i1 : ¬ ((600 : Int) < (s.size : Int)) := by omega
    have hP : Ps ((w.alloc (.cells zero5L.toArray 26)).alloc (.cells #[.string s, .int .i64 0, .bool false] 51)) (w.heap.size + 1) s 0 false := by
      have := At.new (w.alloc (.cells zero5L.toArray 26)) #[.string s, .int .i64 0, .bool false] 51
      rw [World.size_alloc] at this
      exact this
    have HP := hide hP
    clear hP
    go_enter Tryz.func12, Tryz.ntmps12
    go_wp2_with (fail)
    refine (exprC 8 (by omega) (w.heap.size + 1) s 0 1 _ (by omega) (unhide HP) (by omega) (by omega)).mono ?_
    rintro x w1 ⟨v, rfl, e, a1, bad, hEV, ⟨hP1, hG1⟩, ha1, hgo, hno⟩
    rw [left_all] at hgo hno
    obtain ⟨ka, kc, ta, tc, rfl⟩ := hEV.form
    have hz1 : w.heap.size + 2 ≤ w1.heap.size := by have := hG1.size; simpa using this
    have B1 : Below w.heap.size w w1 := ⟨hG1.os, hG1.tape, hG1.output, by have := hG1.size; simp at this; omega, fun j hj => by
      rw [hG1.block j (by simp; omega) (by simp; omega), Below.heap_alloc _ _ _ (by simp; omega), Below.heap_alloc _ _ _ (by omega)]⟩
    have bx : At w1 w.heap.size zero5L := (At.new w zero5L.toArray 26).kept (by
      rw [hG1.block _ (by simp; omega) (by simp), Below.heap_alloc _ _ _ (by simp)])
    have HEV := hide (hEV.mono (lo' := w.heap.size + 1) (by simp) (Nat.le_refl _))
    have HB1 := hide B1
    have BX := hide bx
    obtain ⟨⟨c0, c1, c2⟩, f1, f2⟩ := hP1.cells
    have HGO := hide hgo
    have HNO := hide hno
    clear hEV hP1 hG1 B1 bx hgo hno HP
    have hb1 : w.heap.size + 1 < w1.heap.size := by omega
    have hb0 : w.heap.size < w1.heap.size := by omega
    cases bad with
    | true =>
      have HN : Hid (∀ e, ¬ IsRule s.data.toList e) := hide (fun e h => by rw [h.read] at HNO; exact absurd (unhide HNO rfl) (by simp))
      obtain ⟨u0, y0⟩ := (unhide BX) 0 _ rfl
      obtain ⟨u1, y1⟩ := (unhide BX) 1 _ rfl
      obtain ⟨u2, y2⟩ := (unhide BX) 2 _ rfl
      obtain ⟨u3, y3⟩ := (unhide BX) 3 _ rfl
      obtain ⟨u4, y4⟩ := (unhide BX) 4 _ rfl
      go_wp2_with (fail)
      have oo := (put5_at (unhide BX) (.int .i64 0) (.int .i64 0) (.string ⟨#[]⟩) (.slice none 0 0) (.slice none 0 0)).kept (show ((put5 w1 w.heap.size (.int .i64 0) (.int .i64 0) (.string ⟨#[]⟩) (.slice none 0 0) (.slice none 0 0)).alloc (.cells #[.int .i64 e.kind, .int .i64 e.num, .string e.meter, .slice ka e.kids.length kc, .slice ta e.tiers.length tc] 26)).heap[w.heap.size]? = _ from Below.heap_alloc _ _ _ (by simp; omega))
      obtain ⟨t0, _⟩ := oo 0 _ rfl
      obtain ⟨t1, _⟩ := oo 1 _ rfl
      obtain ⟨t2, _⟩ := oo 2 _ rfl
      obtain ⟨t3, _⟩ := oo 3 _ rfl
      obtain ⟨t4, _⟩ := oo 4 _ rfl
      refine bodyPost_ret (v := .tuple #[.agg #[.int .i64 0, .int .i64 0, .string ⟨#[]⟩, .slice none 0 0, .slice none 0 0], .bool false]) (by simp [results, Tryz.results12, go_sem, t0, t1, t2, t3, t4]) rfl ⟨_, false, rfl, ⟨fun h => (by cases h), fun _ => ⟨rfl, unhide HN⟩⟩, ?_⟩
      refine Below.alloc ?_ (by simp; omega) _
      iterate 5 refine Below.setCell ?_ (by simp) _
      exact unhide HB1
    | false =>
      obtain ⟨_, hx⟩ := unhide HGO rfl
      have hwt := exprS_wt 8 _ _ _ hx
      have HX := hide hx
      clear HGO HNO hx
      go_wp2_with (fail)
      refine (textS 8 _ _ _ e _ (keptE (unhide HEV) (Nat.le_refl _) (below_alloc _ _)) (by simp) (by omega)).mono ?_
      rintro x w2 ⟨rfl, hb2⟩
      obtain ⟨q2, hB2, hz2⟩ := Boxes.box1 hb2
      have HB2 := hide (Kinds.below_trans (unhide HB1) hB2)
      have BX2 := hide ((unhide BX).below hB2 (by omega))
      have EX2 := hide q2
      have HEV2 := hide (keptE (unhide HEV) (Nat.le_refl _) hB2)
      have hlt2 : w.heap.size < w2.heap.size := by omega
      clear hb2 hB2 q2 c0 c1 c2 f1 f2 BX HEV HB1
      obtain ⟨u0, y0⟩ := (unhide BX2) 0 _ rfl
      obtain ⟨u1, y1⟩ := (unhide BX2) 1 _ rfl
      obtain ⟨u2, y2⟩ := (unhide BX2) 2 _ rfl
      obtain ⟨u3, y3⟩ := (unhide BX2) 3 _ rfl
      obtain ⟨u4, y4⟩ := (unhide BX2) 4 _ rfl
      obtain ⟨g0, _⟩ := (unhide EX2) 0 _ rfl
      obtain ⟨g1, _⟩ := (unhide EX2) 1 _ rfl
      obtain ⟨g2, _⟩ := (unhide EX2) 2 _ rfl
      obtain ⟨g3, _⟩ := (unhide EX2) 3 _ rfl
      obtain ⟨g4, _⟩ := (unhide EX2) 4 _ rfl
      by_cases ht : bytesOf (textE e) = s
      case neg =>
        have hx1 := Kinds.neB ht
        have HN : Hid (∀ e, ¬ IsRule s.data.toList e) := hide (fun e' h => by
          have := (unhide HX).symm.trans h.read
          simp only [Option.some.injEq, Prod.mk.injEq] at this
          rw [this.1] at ht
          apply ht
          unfold textE
          rw [if_pos h.1, h.2.1, bytes_self])
        go_wp2_with (fail)
        have oo := put5_at (unhide BX2) (.int .i64 0) (.int .i64 0) (.string ⟨#[]⟩) (.slice none 0 0) (.slice none 0 0)
        obtain ⟨t0, _⟩ := oo 0 _ rfl
        obtain ⟨t1, _⟩ := oo 1 _ rfl
        obtain ⟨t2, _⟩ := oo 2 _ rfl
        obtain ⟨t3, _⟩ := oo 3 _ rfl
        obtain ⟨t4, _⟩ := oo 4 _ rfl
        refine bodyPost_ret (v := .tuple #[.agg #[.int .i64 0, .int .i64 0, .string ⟨#[]⟩, .slice none 0 0, .slice none 0 0], .bool false]) (by simp [results, Tryz.results12, go_sem, t0, t1, t2, t3, t4]) rfl ⟨_, false, rfl, ⟨fun h => (by cases h), fun _ => ⟨rfl, unhide HN⟩⟩, ?_⟩
        iterate 5 refine Below.setCell ?_ (by simp) _
        exact unhide HB2
      have hx1 := Kinds.eqB ht
      have htl : textE e = s.data.toList := by rw [← ht]; rfl
      by_cases h0 : s.size = 0
      · have HN : Hid (∀ e, ¬ IsRule s.data.toList e) := hide (fun e' h => h.ne (List.length_eq_zero_iff.1 (by omega)))
        have he0 : s.toList.isEmpty = true := by
          rw [Lib.toList_data, List.length_eq_zero_iff.1 (show s.data.toList.length = 0 by omega)]; rfl
        clear ht htl
        go_wp2_with (fail)
        have oo := put5_at (unhide BX2) (.int .i64 0) (.int .i64 0) (.string ⟨#[]⟩) (.slice none 0 0) (.slice none 0 0)
        obtain ⟨t0, _⟩ := oo 0 _ rfl
        obtain ⟨t1, _⟩ := oo 1 _ rfl
        obtain ⟨t2, _⟩ := oo 2 _ rfl
        obtain ⟨t3, _⟩ := oo 3 _ rfl
        obtain ⟨t4, _⟩ := oo 4 _ rfl
        refine bodyPost_ret (v := .tuple #[.agg #[.int .i64 0, .int .i64 0, .string ⟨#[]⟩, .slice none 0 0, .slice none 0 0], .bool false]) (by simp [results, Tryz.results12, go_sem, t0, t1, t2, t3, t4]) rfl ⟨_, false, rfl, ⟨fun h => (by cases h), fun _ => ⟨rfl, unhide HN⟩⟩, ?_⟩
        iterate 5 refine Below.setCell ?_ (by simp) _
        exact unhide HB2
      · have HOK := hide (isRule_of htl (fun h => h0 (by rw [← hlen, h]; rfl)) (by omega))
        have he0 : s.toList.isEmpty = false := by
          rw [Lib.toList_data]
          cases hh : s.data.toList with
          | nil => rw [hh] at hlen; simp at hlen; omega
          | cons a b => rfl
        clear ht htl
        go_wp2_with (fail)
        have oo := put5_at (unhide BX2) (.int .i64 e.kind) (.int .i64 e.num) (.string e.meter) (.slice ka e.kids.length kc) (.slice ta e.tiers.length tc)
        obtain ⟨t0, _⟩ := oo 0 _ rfl
        obtain ⟨t1, _⟩ := oo 1 _ rfl
        obtain ⟨t2, _⟩ := oo 2 _ rfl
        obtain ⟨t3, _⟩ := oo 3 _ rfl
        obtain ⟨t4, _⟩ := oo 4 _ rfl
        have hgg := put5_gb w2 w.heap.size (.int .i64 e.kind) (.int .i64 e.num) (.string e.meter) (.slice ka e.kids.length kc) (.slice ta e.tiers.length tc)
        refine bodyPost_ret (v := .tuple #[.agg #[.int .i64 e.kind, .int .i64 e.num, .string e.meter, .slice ka e.kids.length kc, .slice ta e.tiers.length tc], .bool true]) (by simp [results, Tryz.results12, go_sem, t0, t1, t2, t3, t4]) rfl ⟨_, true, rfl, ⟨fun _ => ⟨e, 8, unhide HOK, ?_⟩, fun h => (by cases h)⟩, ?_⟩
        · exact ((unhide HEV2).kept (fun b h1 h2 => hgg.block b (by omega) (by simp; omega))).mono (by omega) (by simp; omega)
        iterate 5 refine Below.setCell ?_ (by simp) _
        exact unhide HB2
end Go.Proofs.YtogkkkollmcijaaGreatDoor.Rule
end

section
/-
  impl.RuleRead.
-/
namespace Go.Proofs.YtogkkkollmcijaaGreatDoor.Rule
set_option linter.unusedVariables false
open Go.RowKit
open Tiers (T T0 TR hide unhide below_trans)
open Kinds hiding hide unhide below_trans ext_toList

/-- what the program's RuleRead hands out: its memory is its own -/
def ReadOutI (w w' : World) (t : List UInt8) (v : Value) (ok : Bool) : Prop :=
  (ok = true → ∃ e kv tv d, IsRule t e ∧ v = .agg #[.int .i64 e.kind, .int .i64 e.num, .string e.meter, kv, tv] ∧ OX w' d w.heap.size w'.heap.size (e, kv, tv)) ∧ (ok = false → v = .agg #[.int .i64 0, .int .i64 0, .string ⟨#[]⟩, .slice none 0 0, .slice none 0 0] ∧ ∀ e, ¬ IsRule t e)

theorem isRule_reads {t : List UInt8} {e e0 : Ex} {n : Nat} {r : List UInt8} (h : IsRule t e0) (hr : ReadsI n t e r) : textE e = t := by
  have h2 := h.2.1
  have ha := (ok_all h.1).1
  have := reads_wr n e0 [] e r ha (.inl rfl) low_nil (by rw [List.append_nil, h2]; exact hr)
  rw [this.1, textE, h.1]
  exact h2

set_option maxRecDepth 20000 in
set_option maxHeartbeats 1600000 in
theorem readRI (s : ByteArray) (w : World) (hs : s.size ≤ maxLen) (he : EnvR w) :
    Calls Tryz.prog 6 #[.string s] w fun x w' => ∃ v ok, x = .returned (.tuple #[v, .bool ok]) ∧ ReadOutI w w' s.data.toList v ok ∧ Below w.heap.size w w' := by
  unfold maxLen at hs
  have hlen : s.data.toList.length = s.size := Array.length_toList
  by_cases h0 : s.size = 0
  · have hx := isEmpty_yes h0
    have HN : Hid (∀ e, ¬ IsRule s.data.toList e) := hide (fun e h => h.ne (List.length_eq_zero_iff.1 (by omega)))
    go_enter Tryz.func6, Tryz.ntmps6
    go_wp2_with (fail)
    have oo := Boxes.At.new w #[.int .i64 0, .int .i64 0, .string ⟨#[]⟩, .slice none 0 0, .slice none 0 0] 26
    obtain ⟨t0, _⟩ := oo 0 _ rfl
    obtain ⟨t1, _⟩ := oo 1 _ rfl
    obtain ⟨t2, _⟩ := oo 2 _ rfl
    obtain ⟨t3, _⟩ := oo 3 _ rfl
    obtain ⟨t4, _⟩ := oo 4 _ rfl
    exact bodyPost_ret (v := .tuple #[.agg #[.int .i64 0, .int .i64 0, .string ⟨#[]⟩, .slice none 0 0, .slice none 0 0], .bool false]) (by simp [results, Tryz.results6, go_sem, t0, t1, t2, t3, t4]) rfl ⟨_, false, rfl, ⟨fun h => (by cases h), fun _ => ⟨rfl, unhide HN⟩⟩, below_alloc _ _⟩
  have hx := isEmpty_no h0
  by_cases hl : 600 < s.size
  · have HN : Hid (∀ e, ¬ IsRule s.data.toList e) := hide (fun e h => by have := h.2.2; omega)
    have i1 : (600 : Int) < (s.size : Int) := by omega
    go_enter Tryz.func6, Tryz.ntmps6
    go_wp2_with (fail)
    have oo := Boxes.At.new w #[.int .i64 0, .int .i64 0, .string ⟨#[]⟩, .slice none 0 0, .slice none 0 0] 26
    obtain ⟨t0, _⟩ := oo 0 _ rfl
    obtain ⟨t1, _⟩ := oo 1 _ rfl
    obtain ⟨t2, _⟩ := oo 2 _ rfl
    obtain ⟨t3, _⟩ := oo 3 _ rfl
    obtain ⟨t4, _⟩ := oo 4 _ rfl
    exact bodyPost_ret (v := .tuple #[.agg #[.int .i64 0, .int .i64 0, .string ⟨#[]⟩, .slice none 0 0, .slice none 0 0], .bool false]) (by simp [results, Tryz.results6, go_sem, t0, t1, t2, t3, t4]) rfl ⟨_, false, rfl, ⟨fun h => (by cases h), fun _ => ⟨rfl, unhide HN⟩⟩, below_alloc _ _⟩
  have i1 : ¬ (600 : Int) < (s.size : Int) := by omega
  have HR : Hid (∀ W : World, EnvR W → _) := hide (fun W hW => read_all (s.size + 1) s.data.toList W (by omega) (by omega) hW)
  rw [bytes_self] at HR
  have HEW := hide he
  clear he
  go_enter Tryz.func6, Tryz.ntmps6
  go_wp2_with (fail)
  refine (unhide HR _ ((unhide HEW).kept (below_alloc _ _))).mono ?_
  rintro x w1 ⟨e, kv, tv, r, rfl, hrd, hox, hb1⟩
  have hwt := reads_wt _ _ _ _ hrd
  obtain ⟨xa, xc, hxf, _⟩ := hox.2.choose_spec.1.es.form
  obtain ⟨ya, yc, hyf⟩ := hox.2.choose_spec.2.tl.form
  simp only at hxf hyf
  subst hxf hyf
  obtain ⟨q1, hB, hz1⟩ := Boxes.box1 hb1
  have Q1 := hide q1
  have B1 := hide hB
  have hox1 := hox
  rw [World.size_alloc] at hox1
  have HOX := hide hox1
  have HRD := hide hrd
  clear hb1 hB q1 hox hox1 hrd HR
  have hwt2 : wt e ≤ 1048576 := by omega
  go_wp2_with (fail)
  have hE1 : EnvR w1 := (unhide HEW).kept (unhide B1)
  refine (textI (s.size + 1) (w.heap.size + 1) w1.heap.size _ e _ ((unhide HOX).ev.kept (same_below (below_alloc _ _) (Nat.le_refl _))) (by simp) hwt2 (hE1.kept (below_alloc _ _)).1.1).mono ?_
  rintro x w3 ⟨rfl, hb3⟩
  obtain ⟨e0, e1, e2, e3, e4, hB3⟩ := box5 _ _ _ _ _ _ _ _ hb3
  have B3 := hide (below_trans (unhide B1) hB3)
  have hq := (unhide Q1).below hB3 (by omega)
  have Q3 := hide hq
  obtain ⟨c0, f0⟩ := hq 0 _ rfl
  obtain ⟨c1, f1⟩ := hq 1 _ rfl
  obtain ⟨c2, f2⟩ := hq 2 _ rfl
  obtain ⟨c3, f3⟩ := hq 3 _ rfl
  obtain ⟨c4, f4⟩ := hq 4 _ rfl
  have HOX3 : Hid (OX w3 (s.size + 1) (w.heap.size + 1) w1.heap.size (e, .slice xa e.kids.length xc, .slice ya e.tiers.length yc)) := hide ((unhide HOX).kept (same_below hB3 (Nat.le_refl _)))
  have hz3 := hB3.size
  clear hb3 hB3 hq hE1
  by_cases hT : textE e = s.data.toList
  · have hne : (!(bytesOf (textE e)).toList == s.toList) = false := by rw [hT, bytes_self]; simp
    have HI : Hid (IsRule s.data.toList e) := hide (isRule_of hT (fun h => by rw [h] at hlen; simp at hlen; omega) (by omega))
    clear hT
    generalize textE e = tx at *
    go_wp2_with (fail)
    have hA5 := at_put5 (unhide Q3) (.int .i64 e.kind) (.int .i64 e.num) (.string e.meter) (.slice xa e.kids.length xc) (.slice ya e.tiers.length yc)
    obtain ⟨s0, _⟩ := hA5 0 _ rfl
    obtain ⟨s1, _⟩ := hA5 1 _ rfl
    obtain ⟨s2, _⟩ := hA5 2 _ rfl
    obtain ⟨s3, _⟩ := hA5 3 _ rfl
    obtain ⟨s4, _⟩ := hA5 4 _ rfl
    have hfin := below_put5 (unhide B3) (b := w.heap.size) (Nat.le_refl _) (.int .i64 e.kind) (.int .i64 e.num) (.string e.meter) (.slice xa e.kids.length xc) (.slice ya e.tiers.length yc)
    have hW : ∀ c, c ≠ w.heap.size → (((((w3.setCell ⟨w.heap.size, 0, none⟩ (.int .i64 e.kind)).setCell ⟨w.heap.size, 1, none⟩ (.int .i64 e.num)).setCell ⟨w.heap.size, 2, none⟩ (.string e.meter)).setCell ⟨w.heap.size, 3, none⟩ (.slice xa e.kids.length xc)).setCell ⟨w.heap.size, 4, none⟩ (.slice ya e.tiers.length yc)).heap[c]? = w3.heap[c]? := fun c hc => by
      have k : ∀ (V : World) (o : Nat) (u : Value), (V.setCell ⟨w.heap.size, o, none⟩ u).heap[c]? = V.heap[c]? := fun V o u => Below.heap_setCell V ⟨w.heap.size, o, none⟩ u c (by simpa using hc)
      rw [k, k, k, k, k]
    exact bodyPost_ret (v := .tuple #[.agg #[.int .i64 e.kind, .int .i64 e.num, .string e.meter, .slice xa e.kids.length xc, .slice ya e.tiers.length yc], .bool true]) (by simp [results, Tryz.results6, go_sem, s0, s1, s2, s3, s4]) rfl ⟨_, true, rfl, ⟨fun _ => ⟨e, _, _, s.size + 1, unhide HI, rfl, ((unhide HOX3).kept (fun c c1 c2 => hW c (by omega))).mono (by omega) (by simp; omega)⟩, fun h => (by cases h)⟩, hfin⟩
  · have hne : (!(bytesOf (textE e)).toList == s.toList) = true := by
      have : (bytesOf (textE e)).toList ≠ s.toList := fun h => hT (by
        have h2 := Kinds.ext_toList h
        rw [← h2]; simp [bytesOf])
      simpa using this
    have HN : Hid (∀ e', ¬ IsRule s.data.toList e') := hide (fun e' h => hT (isRule_reads h (unhide HRD)))
    clear hT
    generalize textE e = tx at *
    go_wp2_with (fail)
    have hA5 := at_put5 (unhide Q3) (.int .i64 0) (.int .i64 0) (.string ⟨#[]⟩) (.slice none 0 0) (.slice none 0 0)
    obtain ⟨s0, _⟩ := hA5 0 _ rfl
    obtain ⟨s1, _⟩ := hA5 1 _ rfl
    obtain ⟨s2, _⟩ := hA5 2 _ rfl
    obtain ⟨s3, _⟩ := hA5 3 _ rfl
    obtain ⟨s4, _⟩ := hA5 4 _ rfl
    exact bodyPost_ret (v := .tuple #[.agg #[.int .i64 0, .int .i64 0, .string ⟨#[]⟩, .slice none 0 0, .slice none 0 0], .bool false]) (by simp [results, Tryz.results6, go_sem, s0, s1, s2, s3, s4]) rfl ⟨_, false, rfl, ⟨fun h => (by cases h), fun _ => ⟨rfl, unhide HN⟩⟩, below_put5 (unhide B3) (Nat.le_refl _) _ _ _ _ _⟩
end Go.Proofs.YtogkkkollmcijaaGreatDoor.Rule
end

section
/-
  What RuleRead answers, both as one.
-/
namespace Go.Proofs.YtogkkkollmcijaaGreatDoor.Rule
set_option linter.unusedVariables false
open Go.RowKit

/-- what is read of a text: an expression, or none -/
def OutR (t : List UInt8) (ok : Bool) (e : Ex) : Prop := (ok = true ∧ IsRule t e) ∨ (ok = false ∧ e = E0 ∧ ∀ e', ¬ IsRule t e')
theorem OutR.one {t : List UInt8} {ok ok' : Bool} {e e' : Ex} (h : OutR t ok e) (h' : OutR t ok' e') : ok = ok' ∧ e = e' := by
  rcases h with ⟨rfl, h⟩ | ⟨rfl, rfl, h⟩
  · rcases h' with ⟨rfl, h'⟩ | ⟨rfl, rfl, h'⟩
    · exact ⟨rfl, h.one h'⟩
    · exact absurd h (h' _)
  · rcases h' with ⟨rfl, h'⟩ | ⟨rfl, rfl, h'⟩
    · exact absurd h' (h _)
    · exact ⟨rfl, rfl⟩
theorem OutR.wt {t : List UInt8} {ok : Bool} {e : Ex} (h : OutR t ok e) : wt e ≤ 100000 := by
  rcases h with ⟨_, h⟩ | ⟨_, rfl, _⟩
  · have h1 := exprS_wt _ _ _ _ h.read
    have h2 := h.2.2
    simp at h1; omega
  · decide
theorem ReadOut.out {w w' : World} {t : List UInt8} {v : Value} {ok : Bool} (h : ReadOut w w' t v ok) (hb : w.heap.size ≤ w'.heap.size) : ∃ e d, OutR t ok e ∧ EV w.heap.size w'.heap.size w' d v e := by
  cases ok with
  | true =>
    obtain ⟨e, d, h1, h2⟩ := h.1 rfl
    exact ⟨e, d, .inl ⟨rfl, h1⟩, h2⟩
  | false =>
    obtain ⟨rfl, h2⟩ := h.2 rfl
    exact ⟨E0, 0, .inr ⟨rfl, rfl, h2⟩, .slice none 0 0, .slice none 0 0, rfl, ⟨by decide, by decide⟩, ⟨rfl, _, _, rfl⟩, .inl ⟨rfl, _, _, rfl⟩⟩
theorem ReadOutI.out {w w' : World} {t : List UInt8} {v : Value} {ok : Bool} (h : ReadOutI w w' t v ok) (hb : w.heap.size ≤ w'.heap.size) : ∃ e kv tv d, OutR t ok e ∧ v = .agg #[.int .i64 e.kind, .int .i64 e.num, .string e.meter, kv, tv] ∧ OX w' d w.heap.size w'.heap.size (e, kv, tv) := by
  cases ok with
  | true =>
    obtain ⟨e, kv, tv, d, h1, h2, h3⟩ := h.1 rfl
    exact ⟨e, kv, tv, d, .inl ⟨rfl, h1⟩, h2, h3⟩
  | false =>
    obtain ⟨rfl, h2⟩ := h.2 rfl
    exact ⟨E0, .slice none 0 0, .slice none 0 0, 0, .inr ⟨rfl, rfl, h2⟩, rfl, ⟨by decide, by decide⟩, w.heap.size, OS.nil _ _ (Nat.le_refl _), OT.nil _ _ hb⟩

/-- both answers as one -/
theorem ansS (s : ByteArray) (w : World) (hs : s.size ≤ maxLen) : Calls Tryz.prog 12 #[.string s] w fun x w' => ∃ v ok e d, x = .returned (.tuple #[v, .bool ok]) ∧ OutR s.data.toList ok e ∧ EV w.heap.size w'.heap.size w' d v e ∧ Below w.heap.size w w' := by
  refine (readS s w hs).mono ?_
  rintro x w' ⟨v, ok, rfl, h, hb⟩
  obtain ⟨e, d, h1, h2⟩ := h.out hb.size
  exact ⟨v, ok, e, d, rfl, h1, h2, hb⟩
theorem ansI (s : ByteArray) (w : World) (hs : s.size ≤ maxLen) (he : EnvR w) : Calls Tryz.prog 6 #[.string s] w fun x w' => ∃ ok e kv tv d, x = .returned (.tuple #[.agg #[.int .i64 e.kind, .int .i64 e.num, .string e.meter, kv, tv], .bool ok]) ∧ OutR s.data.toList ok e ∧ OX w' d w.heap.size w'.heap.size (e, kv, tv) ∧ Below w.heap.size w w' := by
  refine (readRI s w hs he).mono ?_
  rintro x w' ⟨v, ok, rfl, h, hb⟩
  obtain ⟨e, kv, tv, d, h1, rfl, h3⟩ := h.out hb.size
  exact ⟨ok, e, kv, tv, d, rfl, h1, h3, hb⟩
end Go.Proofs.YtogkkkollmcijaaGreatDoor.Rule
end

section
/-
  The law FnRuleBack: a tariff is read back from its text.
-/
namespace Go.Proofs.YtogkkkollmcijaaGreatDoor.Rule
set_option linter.unusedVariables false
open Go.RowKit RegIn
open Tiers (T T0 TR hide unhide below_trans)

theorem text_rule {t : List UInt8} {e : Ex} (h : IsRule t e) : textE e = t := by
  unfold textE; rw [if_pos h.1]; exact h.2.1
theorem textB (s : ByteArray) {e : Ex} (h : IsRule s.data.toList e) : bytesOf (textE e) = s := by rw [text_rule h, bytes_self]
theorem rule_text {e : Ex} (h : okE e = true) (hl : (bytesOf (textE e)).size ≤ 600) : IsRule (bytesOf (textE e)).data.toList e := by
  have e1 : textE e = wr e := by unfold textE; rw [if_pos h]
  have e2 : (bytesOf (textE e)).data.toList = textE e := by unfold bytesOf; simp
  have e3 : (bytesOf (textE e)).size = (textE e).length := by unfold bytesOf; simp [ByteArray.size]
  exact ⟨h, by rw [e2, e1], by rw [e2]; omega⟩

set_option maxHeartbeats 16000000 in
set_option maxRecDepth 100000 in
theorem ruleBack (a0 : Option Addr) (len0 cap0 : Nat) (a1 : Option Addr) (len1 cap1 : Nat) (w : World) (hB : Draw.Bytes w a0 len0 cap0) (hB1 : Draw.Bytes w a1 len1 cap1) (hE : EnvR w) :
    Calls Tryz.prog 3 #[.slice a0 len0 cap0, .slice a1 len1 cap1] w fun e w' => e = .returned (.bool true) ∧ Below w.heap.size w w' := by
  by_cases hl : 1048576 < len0
  · go_enter Tryz.func3, Tryz.ntmps3
    go_wp2
    go_ret
    exact ⟨rfl, Below.refl _ _⟩
  by_cases hm : 1048576 < len1
  · go_enter Tryz.func3, Tryz.ntmps3
    go_wp2
    go_ret
    exact ⟨rfl, Below.refl _ _⟩
  have HE0 := hide hE
  have HB1 := hide hB1
  have HB0 := hide hB
  clear hE hB1 hB
  go_enter Tryz.func3, Tryz.ntmps3
  go_wp2_with fail
  refine (Draw.drawTx a0 len0 cap0 w (unhide HB0)).mono ?_
  rintro x w1 ⟨v, e, d, rfl, hEV, hwt, hb1⟩
  obtain ⟨ka, kc, ta, tc, rfl⟩ := hEV.form
  have hX1 := Box.new w1 e ka kc ta tc 26
  have hba := below_alloc w1 (.cells #[.int .i64 e.kind, .int .i64 e.num, .string e.meter, .slice ka e.kids.length kc, .slice ta e.tiers.length tc] 26)
  obtain ⟨W1, hW1⟩ : ∃ W1, w1.alloc (.cells #[.int .i64 e.kind, .int .i64 e.num, .string e.meter, .slice ka e.kids.length kc, .slice ta e.tiers.length tc] 26) = W1 := ⟨_, rfl⟩
  rw [hW1] at hX1 hba
  have hz1 : W1.heap.size = w1.heap.size + 1 := by rw [← hW1]; simp
  have HW1 := hide hW1
  have X1 := hide hX1
  have B1 := hide (below_trans hb1 hba)
  have E1 := hide (keptE hEV (Nat.le_refl _) hba)
  clear hEV hb1 hba hW1 HB0
  obtain ⟨c0, c1, c2, c3, c4⟩ := hX1
  go_wp2_with fail
  rw [unhide HW1]
  go_wp2_with fail
  refine (textI d w.heap.size w1.heap.size _ e W1 (unhide E1) (by omega) (by omega) ((unhide HE0).kept (unhide B1)).1.1).mono ?_
  rintro x w2 ⟨rfl, hb2⟩
  have hsz : (bytesOf (textE e)).size ≤ 8000 := by
    show (textE e).toArray.size ≤ 8000
    rw [List.size_toArray]; exact Draw.text_len e
  have HRT : Hid (okE e = true → (bytesOf (textE e)).size ≤ 600 → IsRule (bytesOf (textE e)).data.toList e) := hide rule_text
  have HTS : Hid (∀ (v : Value) (W : World), EV w.heap.size w1.heap.size W d v e → w1.heap.size ≤ W.heap.size → Calls Tryz.prog 9 #[v] W fun x w' => x = .returned (.string (bytesOf (textE e))) ∧ Below W.heap.size W w') := hide (fun v W hv hW => textS d _ _ v e W hv hW (by omega))
  generalize bytesOf (textE e) = s at *
  have hz2 := hb2.size
  have B2 := hide (below_trans (unhide B1) hb2)
  have X2 := hide ((unhide X1).kept hb2)
  have E2 := hide (keptE (unhide E1) (by omega) hb2)
  clear hb2 X1 E1 B1 c0 c1 c2 c3 c4 HW1
  go_wp2_with fail
  refine (ansI s w2 (by unfold maxLen; omega) ((unhide HE0).kept (unhide B2))).mono ?_
  rintro x w3 ⟨ok, e2, kv, tv, dG, rfl, hO, hG, hb3⟩
  obtain ⟨xa, xc, hxf, _⟩ := hG.2.choose_spec.1.es.form
  obtain ⟨ya, yc, hyf⟩ := hG.2.choose_spec.2.tl.form
  simp only at hxf hyf
  subst hxf hyf
  have hz3 := hb3.size
  have hba := below_alloc w3 (.cells #[.int .i64 e2.kind, .int .i64 e2.num, .string e2.meter, .slice xa e2.kids.length xc, .slice ya e2.tiers.length yc] 26)
  have hY := Box.new w3 e2 xa xc ya yc 26
  obtain ⟨W3, hW3⟩ : ∃ W3, w3.alloc (.cells #[.int .i64 e2.kind, .int .i64 e2.num, .string e2.meter, .slice xa e2.kids.length xc, .slice ya e2.tiers.length yc] 26) = W3 := ⟨_, rfl⟩
  rw [hW3] at hba hY
  have hz3a : W3.heap.size = w3.heap.size + 1 := by rw [← hW3]; simp
  have hb23 := below_trans hb3 hba
  have hB3 := below_trans (unhide B2) hb23
  have hX3 := (unhide X2).kept hb23
  have hE3 := keptE (unhide E2) (by omega) hb23
  have hG3 := keptE hG.ev (Nat.le_refl _) hba
  have hwt2 := hO.wt
  have KEY : Hid (∀ W, Below W3.heap.size W3 W → Box W w1.heap.size e ka kc ta tc ∧ Box W w3.heap.size e2 xa xc ya yc ∧ EV w.heap.size w1.heap.size W d (exV e ka kc ta tc) e ∧ EV w2.heap.size w3.heap.size W dG (exV e2 xa xc ya yc) e2 ∧ Below w.heap.size w W ∧ W3.heap.size ≤ W.heap.size) := hide (fun W hW =>
    ⟨hX3.kept hW, hY.kept hW, keptE hE3 (by omega) hW, keptE hG3 (by omega) hW, below_trans hB3 hW, hW.size⟩)
  have HO := hide hO
  have HW3 := hide hW3
  clear hba hY hW3 hb23 hB3 hX3 hE3 hG3 hG hO hb3 X2 E2 B2
  go_wp2_with fail
  rw [unhide HW3]
  have HC1 : Hid (∀ b, okE e = b → ∀ g : In (Below W3.heap.size W3), Calls Tryz.prog 7 #[exV e ka kc ta tc] g.x fun x w' => x = .returned (.bool b) ∧ Below W3.heap.size W3 w') := hide (fun b hb g => by
    obtain ⟨_, _, k3, _, _, k6⟩ := unhide KEY g.x g.h
    subst hb
    exact (okI d _ _ _ e g.x k3 (by omega) (by omega)).mono (fun x w' ⟨h1, h2⟩ => ⟨h1, below_trans g.h h2⟩))
  have HC2 : Hid (∀ b, okE e = b → ∀ g : In (Below W3.heap.size W3), Calls Tryz.prog 8 #[exV e ka kc ta tc] g.x fun x w' => x = .returned (.bool b) ∧ Below W3.heap.size W3 w') := hide (fun b hb g => by
    obtain ⟨_, _, k3, _, _, k6⟩ := unhide KEY g.x g.h
    subst hb
    exact (okS d _ _ _ e g.x k3 (by omega) (by omega)).mono (fun x w' ⟨h1, h2⟩ => ⟨h1, below_trans g.h h2⟩))
  have HC3 : Hid (∀ g : In (Below W3.heap.size W3), Calls Tryz.prog 9 #[exV e ka kc ta tc] g.x fun x w' => x = .returned (.string s) ∧ Below W3.heap.size W3 w') := hide (fun g => by
    obtain ⟨_, _, k3, _, _, k6⟩ := unhide KEY g.x g.h
    exact (unhide HTS _ g.x k3 (by omega)).mono (fun x w' ⟨h1, h2⟩ => ⟨h1, below_trans g.h h2⟩))
  have HC4 : Hid (Hid (e2 = e) → ∀ g : In (Below W3.heap.size W3), Calls Tryz.prog 10 #[exV e2 xa xc ya yc, exV e ka kc ta tc] g.x fun x w' => x = .returned (.bool true) ∧ Below W3.heap.size W3 w') := hide (fun hh g => by
    have h := unhide hh
    clear hh
    obtain ⟨_, _, k3, k4, _, k6⟩ := unhide KEY g.x g.h
    subst h
    exact (wrE_all dG _ _ _ _ d _ _ e2 g.x k4 k3 (by omega) (by omega) (by omega)).mono (fun x w' ⟨h1, h2⟩ => ⟨h1, below_trans g.h h2⟩))
  have p0 : ∀ g : In (Below W3.heap.size W3), g.x.cell? ⟨w1.heap.size, 0, none⟩ = some (.int .i64 e.kind) := fun g => (unhide KEY g.x g.h).1.1
  have p1 : ∀ g : In (Below W3.heap.size W3), g.x.cell? ⟨w1.heap.size, 1, none⟩ = some (.int .i64 e.num) := fun g => (unhide KEY g.x g.h).1.2.1
  have p2 : ∀ g : In (Below W3.heap.size W3), g.x.cell? ⟨w1.heap.size, 2, none⟩ = some (.string e.meter) := fun g => (unhide KEY g.x g.h).1.2.2.1
  have p3 : ∀ g : In (Below W3.heap.size W3), g.x.cell? ⟨w1.heap.size, 3, none⟩ = some (.slice ka e.kids.length kc) := fun g => (unhide KEY g.x g.h).1.2.2.2.1
  have p4 : ∀ g : In (Below W3.heap.size W3), g.x.cell? ⟨w1.heap.size, 4, none⟩ = some (.slice ta e.tiers.length tc) := fun g => (unhide KEY g.x g.h).1.2.2.2.2
  have q0 : ∀ g : In (Below W3.heap.size W3), g.x.cell? ⟨w3.heap.size, 0, none⟩ = some (.int .i64 e2.kind) := fun g => (unhide KEY g.x g.h).2.1.1
  have q1 : ∀ g : In (Below W3.heap.size W3), g.x.cell? ⟨w3.heap.size, 1, none⟩ = some (.int .i64 e2.num) := fun g => (unhide KEY g.x g.h).2.1.2.1
  have q2 : ∀ g : In (Below W3.heap.size W3), g.x.cell? ⟨w3.heap.size, 2, none⟩ = some (.string e2.meter) := fun g => (unhide KEY g.x g.h).2.1.2.2.1
  have q3 : ∀ g : In (Below W3.heap.size W3), g.x.cell? ⟨w3.heap.size, 3, none⟩ = some (.slice xa e2.kids.length xc) := fun g => (unhide KEY g.x g.h).2.1.2.2.2.1
  have q4 : ∀ g : In (Below W3.heap.size W3), g.x.cell? ⟨w3.heap.size, 4, none⟩ = some (.slice ya e2.tiers.length yc) := fun g => (unhide KEY g.x g.h).2.1.2.2.2.2
  have ss : (!s.toList == s.toList) = false := by simp
  have hcase : (∃ b, okE e = b ∧ b = false) ∨ (∃ b, okE e = b ∧ b = true ∧ decide ((s.size : Int) ≤ 600) = false) ∨ (∃ b, okE e = b ∧ b = true ∧ (s.size : Int) ≤ 600 ∧ ok = true ∧ Hid (e2 = e)) := by
    cases hk : okE e
    · exact .inl ⟨_, rfl, rfl⟩
    · by_cases h6 : s.size ≤ 600
      · have h7 := (unhide HO).one (.inl ⟨rfl, unhide HRT hk h6⟩ : OutR s.data.toList true e)
        exact .inr (.inr ⟨_, rfl, rfl, by omega, h7.1, hide h7.2⟩)
      · exact .inr (.inl ⟨_, rfl, rfl, decide_eq_false (by omega)⟩)
  have hdr : Below W3.heap.size W3 W3.drew := ⟨rfl, rfl, rfl, Nat.le_refl _, fun _ _ => rfl⟩
  go_wp2
  rcases hcase with ⟨b, hk, rfl⟩ | ⟨b, hk, rfl, h6⟩ | ⟨b, hk, rfl, h6, rfl, hee⟩
  all_goals
    refine wp_region_in (Below W3.heap.size W3) (by kernel_rfl) (by kernel_rfl) hdr ?_
    intro hne
    repeat (go_big_quiet_step (first | exact rfl | exact call_in _ (unhide HC1 _ hk _) | exact call_in _ (unhide HC2 _ hk _) | exact call_in _ (unhide HC3 _) | exact call_in _ (unhide HC4 (by assumption) _)))
    refine wpQuiet_nil ?_
    rintro _ ⟨g, rfl⟩
    have BG := hide (unhide KEY g.x g.h).2.2.2.2.1
    clear p0 p1 p2 p3 p4 q0 q1 q2 q3 q4 HC1 HC2 HC3 HC4 KEY hdr hne
    generalize g.x = w6 at *
    clear g
    go_wp2_with fail
    refine (Draw.drawRB a1 len1 cap1 w6 ((unhide HB1).kept (unhide BG))).mono ?_
    rintro x w7 ⟨tx, rfl, htx, hb7⟩
    have B7 := hide (below_trans (unhide BG) hb7)
    clear hb7 BG
    go_wp2_with fail
    refine (ansI tx w7 (by unfold maxLen; omega) ((unhide HE0).kept (unhide B7))).mono ?_
    rintro x w8 ⟨ok3, e3, kv, tv, d3, rfl, hO3, hG, hb8⟩
    obtain ⟨za, zc, hxf, _⟩ := hG.2.choose_spec.1.es.form
    obtain ⟨ua, uc, hyf⟩ := hG.2.choose_spec.2.tl.form
    simp only at hxf hyf
    subst hxf hyf
    have hba := below_alloc w8 (.cells #[.int .i64 e3.kind, .int .i64 e3.num, .string e3.meter, .slice za e3.kids.length zc, .slice ua e3.tiers.length uc] 26)
    have hZ := Box.new w8 e3 za zc ua uc 26
    obtain ⟨W8, hW8⟩ : ∃ W8, w8.alloc (.cells #[.int .i64 e3.kind, .int .i64 e3.num, .string e3.meter, .slice za e3.kids.length zc, .slice ua e3.tiers.length uc] 26) = W8 := ⟨_, rfl⟩
    rw [hW8] at hba hZ
    have hz8 : W8.heap.size = w8.heap.size + 1 := by rw [← hW8]; simp
    have B8 := hide (below_trans (unhide B7) (below_trans hb8 hba))
    have G8 := hide (keptE hG.ev (Nat.le_refl _) hba)
    have Z8 := hide hZ
    have hwt3 := hO3.wt
    have HO3 := hide hO3
    have HW8 := hide hW8
    clear hba hZ hW8 hb8 hG hO3 B7
    go_wp2_with fail
    rw [unhide HW8]
    go_wp2_with fail
    refine (ansS tx W8 (by unfold maxLen; omega)).mono ?_
    rintro x w9 ⟨v4, ok4, e4, d4, rfl, hO4, hS4, hb9⟩
    obtain ⟨va, vc, ra, rc, rfl⟩ := hS4.form
    have hok := ((unhide HO3).one hO4).1
    subst hok
    have hbc := below_trans hb9 (below_alloc w9 (.cells #[.int .i64 e4.kind, .int .i64 e4.num, .string e4.meter, .slice va e4.kids.length vc, .slice ra e4.tiers.length rc] 26))
    have hz9 := hbc.size
    have B9 := hide (below_trans (unhide B8) hbc)
    have G9 := hide (keptE (unhide G8) (by omega) hbc)
    have hZ9 := (unhide Z8).kept hbc
    have Z9 := hide hZ9
    clear hO4 hS4 hb9 hbc B8 G8 Z8 HW8
    cases ok3
    · clear hZ9
      go_wp2_with fail
      go_ret
      exact ⟨rfl, unhide B9⟩
    · have hR : IsRule tx.data.toList e3 := by
        rcases unhide HO3 with ⟨_, h⟩ | ⟨h, _⟩
        · exact h
        · cases h
      have HT := hide (textI d3 _ _ _ e3 _ (unhide G9) (by omega) (by omega) ((unhide HE0).kept (unhide B9)).1.1)
      rw [textB tx hR] at HT
      have hokE := hR.1
      have tt : (tx.toList == tx.toList) = true := by simp
      obtain ⟨c0, c1, c2, c3, c4⟩ := hZ9
      clear HO3 hR
      go_wp2_with fail
      refine (unhide HT).mono ?_
      rintro x w10 ⟨rfl, hb10⟩
      have hZ10 := (unhide Z9).kept hb10
      have HK := hide (okI d3 _ _ _ e3 w10 (keptE (unhide G9) (by omega) hb10) (by have := hb10.size; omega) (by omega))
      rw [hokE] at HK
      have B10 := hide (below_trans (unhide B9) hb10)
      clear c0 c1 c2 c3 c4 hb10 HT G9 Z9 B9 hokE
      obtain ⟨c0, c1, c2, c3, c4⟩ := hZ10
      go_wp2_with fail
      refine (unhide HK).mono ?_
      rintro x w11 ⟨rfl, hb11⟩
      have B11 := hide (below_trans (unhide B10) hb11)
      clear hb11 HK B10
      go_wp2_with fail
      go_ret
      exact ⟨rfl, unhide B11⟩
end Go.Proofs.YtogkkkollmcijaaGreatDoor.Rule
end
