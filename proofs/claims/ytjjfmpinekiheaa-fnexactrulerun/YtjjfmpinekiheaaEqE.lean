/-
  eqRuleExpr, eqRuleExprS, of one and the same expression in two places.
-/
import Derived.Test.YtjjfmpinekiheaaCopy2
namespace Go.Proofs.Ytjjfmpinekiheaa.Rule
set_option linter.unusedVariables false
open Go.RowKit Tiers

def EqE (d : Nat) : Prop := ∀ (lo hi lo' hi' d' : Nat) (v v' : Value) (e : Ex) (w : World), EV lo hi w d v e → EV lo' hi' w d' v' e → hi ≤ w.heap.size → hi' ≤ w.heap.size → wt e ≤ 1048576 →
  Calls Try.prog 25 #[v, v'] w fun x w' => x = .returned (.bool true) ∧ Below w.heap.size w w'
def EqS (d : Nat) : Prop := ∀ (lo hi lo' hi' d' : Nat) (v v' : Value) (l : List Ex) (w : World), ES lo hi w d v l → ES lo' hi' w d' v' l → hi ≤ w.heap.size → hi' ≤ w.heap.size → wtL l ≤ 1048576 →
  Calls Try.prog 59 #[v, v'] w fun x w' => x = .returned (.bool true) ∧ Below w.heap.size w w'

theorem eqS_none (a a' : Option Addr) (c c' : Nat) (w : World) :
    Calls Try.prog 59 #[.slice a 0 c, .slice a' 0 c'] w fun x w' => x = .returned (.bool true) ∧ Below w.heap.size w w' := by
  go_enter Try.func59, Try.ntmps59
  go_wp2
  refine wp_loop_rounds 1 ?_
  rw [rounds_succ]
  go_wp2
  go_ret
  exact ⟨rfl, Below.refl _ _⟩

set_option maxHeartbeats 1600000 in
theorem eqE_of {d : Nat} (H : EqS d) : EqE d := by
  rintro lo hi lo' hi' d' v v' e w ⟨kv, tv, rfl, hz, hk, ht⟩ ⟨kv', tv', rfl, _, hk', ht'⟩ hhi hhi' hw
  have HS := hide H
  have HK := hide hk
  have HT := hide ht
  have HK' := hide hk'
  have HT' := hide ht'
  have HW := hide (wt_eq e)
  clear hk ht hk' ht' H hz
  obtain ⟨k, q, m, ks, ts⟩ := e
  simp only [Ex.kind, Ex.num, Ex.meter, Ex.kids, Ex.tiers] at *
  generalize wt (.mk k q m ks ts) = W at *
  have b1 : (k != k) = false := by simp
  have b2 : (q != q) = false := by simp
  have b3 : (!m.toList == m.toList) = false := by simp
  have n1 := At5.new w (.int .i64 k) (.int .i64 q) (.string m) kv tv 26
  have n2 := At5.new (w.alloc (.cells #[.int .i64 k, .int .i64 q, .string m, kv, tv] 26)) (.int .i64 k) (.int .i64 q) (.string m) kv' tv' 26
  simp only [World.size_alloc] at n2
  have B0 : Below w.heap.size w ((w.alloc (.cells #[.int .i64 k, .int .i64 q, .string m, kv, tv] 26)).alloc (.cells #[.int .i64 k, .int .i64 q, .string m, kv', tv'] 26)) := ((Below.refl _ w).alloc (Nat.le_refl _) _).alloc (by simp) _
  have N : Hid (∀ w1, Below ((w.alloc (.cells #[.int .i64 k, .int .i64 q, .string m, kv, tv] 26)).alloc (.cells #[.int .i64 k, .int .i64 q, .string m, kv', tv'] 26)).heap.size ((w.alloc (.cells #[.int .i64 k, .int .i64 q, .string m, kv, tv] 26)).alloc (.cells #[.int .i64 k, .int .i64 q, .string m, kv', tv'] 26)) w1 →
      At5 w1 w.heap.size (.int .i64 k) (.int .i64 q) (.string m) kv tv ∧ At5 w1 (w.heap.size + 1) (.int .i64 k) (.int .i64 q) (.string m) kv' tv' ∧ Below w.heap.size w w1) := hide (fun w1 hb => by
    refine ⟨n1.kept ?_, n2.kept (hb.block _ (by simp)), ?_⟩
    · rw [hb.block _ (by simp; omega), Below.heap_alloc _ _ _ (by simp)]
    · exact B0.trans (hb.mono (by simp; omega)))
  have K0 := hide ((unhide HK).kept (same_below B0 hhi))
  have K0' := hide ((unhide HK').kept (same_below B0 hhi'))
  clear n1 n2 B0 HK HK'
  go_enter Try.func25, Try.ntmps25
  go_wp2_with (fail)
  refine (unhide HS lo hi lo' hi' d' kv kv' ks _ (unhide K0) (unhide K0') (by simp; omega) (by simp; omega) (by have := unhide HW; omega)).mono ?_
  rintro x w1 ⟨rfl, hb1⟩
  obtain ⟨⟨⟨_, _, _, _, a4⟩, _⟩, ⟨⟨_, _, _, _, a4'⟩, _⟩, hB⟩ := unhide N w1 hb1
  have HB := hide hB
  have T1 := hide ((unhide HT).kept (same_below hB hhi)).toTR
  have T1' := hide ((unhide HT').kept (same_below hB hhi')).toTR
  clear hb1 hB N K0 K0' HT HT'
  go_wp2_with (fail)
  refine (eqTiers tv tv' ts _ (unhide T1) (unhide T1') (by have := unhide HW; omega)).mono ?_
  rintro x w2 ⟨rfl, hb2⟩
  have HB2 := hide (below_trans (unhide HB) hb2)
  clear hb2 HB
  go_wp2_with (fail)
  go_ret
  exact ⟨rfl, unhide HB2⟩

set_option maxHeartbeats 1600000 in
theorem eqS_succ {d : Nat} (H : EqE d) : EqS (d + 1) := by
  rintro lo hi lo' hi' d' v v' l w h h' hhi hhi' hw
  have HS := hide H
  clear H
  rcases h with ⟨rfl, a, c, rfl⟩ | ⟨b, o, cap, rfl, hl, k1, k2, hc⟩
  · obtain ⟨a', c', rfl, _⟩ := h'.form
    exact eqS_none _ _ _ _ _
  cases d' with
  | zero => obtain ⟨rfl, a', c', rfl⟩ := h'; exact eqS_none _ _ _ _ _
  | succ d' =>
    rcases h' with ⟨rfl, a', c', rfl⟩ | ⟨b', o', cap', rfl, _, k1', k2', hc'⟩
    · exact eqS_none _ _ _ _ _
    have hll := wtL_len l
    have HC := hide hc
    have HC' := hide hc'
    have hbw : b < w.heap.size := by omega
    have hbw' : b' < w.heap.size := by omega
    have HW : Hid (∀ k, k < l.length → wt (l.getD k E0) ≤ 1048576) := hide (fun k hk => by have := wt_at hk; omega)
    unfold maxLen at hl
    have hn : (((l.length : Int)) != (l.length : Int)) = false := by simp
    clear hc hc'
    go_enter Try.func59, Try.ntmps59
    go_wp2
    go_loopw [5] (fun i wr => ∃ k : Nat, k ≤ l.length ∧ i = .int .i64 k ∧ Hid (Below w.heap.size w wr)) (fun i _ => l.length - (intOf i).toNat)
    case atStart => exact ⟨0, Nat.zero_le _, rfl, hide (Below.refl _ _)⟩
    case round =>
      obtain ⟨k, hk, rfl, hb⟩ := hrel
      by_cases hlt : k < l.length
      · obtain ⟨kv, tv, ⟨c0', c1', c2', c3', c4'⟩, hz, hkk, htt⟩ := unhide HC k hlt
        obtain ⟨kv', tv', ⟨d0', d1', d2', d3', d4'⟩, hz', hkk', htt'⟩ := unhide HC' k hlt
        have c0 := ((unhide hb).cell (p := ⟨b, o + k * 5, none⟩) hbw).trans c0'
        have c1 := ((unhide hb).cell (p := ⟨b, o + k * 5 + 1, none⟩) hbw).trans c1'
        have c2 := ((unhide hb).cell (p := ⟨b, o + k * 5 + 2, none⟩) hbw).trans c2'
        have c3 := ((unhide hb).cell (p := ⟨b, o + k * 5 + 3, none⟩) hbw).trans c3'
        have c4 := ((unhide hb).cell (p := ⟨b, o + k * 5 + 4, none⟩) hbw).trans c4'
        have d0 := ((unhide hb).cell (p := ⟨b', o' + k * 5, none⟩) hbw').trans d0'
        have d1 := ((unhide hb).cell (p := ⟨b', o' + k * 5 + 1, none⟩) hbw').trans d1'
        have d2 := ((unhide hb).cell (p := ⟨b', o' + k * 5 + 2, none⟩) hbw').trans d2'
        have d3 := ((unhide hb).cell (p := ⟨b', o' + k * 5 + 3, none⟩) hbw').trans d3'
        have d4 := ((unhide hb).cell (p := ⟨b', o' + k * 5 + 4, none⟩) hbw').trans d4'
        have HE : Hid (EV lo hi wr d (.agg #[.int .i64 (l.getD k E0).kind, .int .i64 (l.getD k E0).num, .string (l.getD k E0).meter, kv, tv]) (l.getD k E0)) := hide ⟨kv, tv, rfl, hz, hkk.kept (same_below (unhide hb) hhi), htt.kept (same_below (unhide hb) hhi)⟩
        have HE' : Hid (EV lo' hi' wr d' (.agg #[.int .i64 (l.getD k E0).kind, .int .i64 (l.getD k E0).num, .string (l.getD k E0).meter, kv', tv']) (l.getD k E0)) := hide ⟨kv', tv', rfl, hz, hkk'.kept (same_below (unhide hb) hhi'), htt'.kept (same_below (unhide hb) hhi')⟩
        have HW' := hide (unhide HW k hlt)
        have z1 : b < wr.heap.size := Nat.lt_of_lt_of_le hbw (unhide hb).size
        have z2 : b' < wr.heap.size := Nat.lt_of_lt_of_le hbw' (unhide hb).size
        have z3 : hi ≤ wr.heap.size := Nat.le_trans hhi (unhide hb).size
        have z4 : hi' ≤ wr.heap.size := Nat.le_trans hhi' (unhide hb).size
        have i1 : (0 : Int) ≤ (k : Int) := by omega
        have i2 : (k : Int) < (l.length : Int) := by omega
        clear c0' c1' c2' c3' c4' hz hkk htt d0' d1' d2' d3' d4' hz' hkk' htt'
        generalize l.getD k E0 = e at *
        generalize hek : e.kind = ek at *
        generalize hen : e.num = en at *
        generalize hem : e.meter = em at *
        clear hek hen hem
        go_wp2
        go_region_held3 (fun w2 => w2.cell? ⟨b, o + k * 5, none⟩ = some (.int .i64 ek) ∧ w2.cell? ⟨b, o + k * 5 + 1, none⟩ = some (.int .i64 en) ∧ w2.cell? ⟨b, o + k * 5 + 2, none⟩ = some (.string em) ∧ w2.cell? ⟨b, o + k * 5 + 3, none⟩ = some kv ∧ w2.cell? ⟨b, o + k * 5 + 4, none⟩ = some tv ∧ w2.cell? ⟨b', o' + k * 5, none⟩ = some (.int .i64 ek) ∧ w2.cell? ⟨b', o' + k * 5 + 1, none⟩ = some (.int .i64 en) ∧ w2.cell? ⟨b', o' + k * 5 + 2, none⟩ = some (.string em) ∧ w2.cell? ⟨b', o' + k * 5 + 3, none⟩ = some kv' ∧ w2.cell? ⟨b', o' + k * 5 + 4, none⟩ = some tv') (go_keep)
          (first | (go_at_call 25; refine (unhide HS lo hi lo' hi' d' _ _ e wr.drew ((unhide HE).kept (fun _ _ _ => rfl)) ((unhide HE').kept (fun _ _ _ => rfl)) z3 z4 (unhide HW')).mono ?_; rintro x w1 ⟨rfl, hb1⟩; have q0 := hb1.cell (p := ⟨b, o + k * 5, none⟩) z1; have q1 := hb1.cell (p := ⟨b, o + k * 5 + 1, none⟩) z1; have q2 := hb1.cell (p := ⟨b, o + k * 5 + 2, none⟩) z1; have q3 := hb1.cell (p := ⟨b, o + k * 5 + 3, none⟩) z1; have q4 := hb1.cell (p := ⟨b, o + k * 5 + 4, none⟩) z1; have r0 := hb1.cell (p := ⟨b', o' + k * 5, none⟩) z2; have r1 := hb1.cell (p := ⟨b', o' + k * 5 + 1, none⟩) z2; have r2 := hb1.cell (p := ⟨b', o' + k * 5 + 2, none⟩) z2; have r3 := hb1.cell (p := ⟨b', o' + k * 5 + 3, none⟩) z2; have r4 := hb1.cell (p := ⟨b', o' + k * 5 + 4, none⟩) z2))
        have HB : Hid (Below w.heap.size w w1) := hide (below_trans (unhide hb) (below_of_drew hb1))
        clear hb1 hb q0 q1 q2 q3 q4 r0 r1 r2 r3 r4
        go_wp2
        exact ⟨⟨k + 1, by omega, by go_num, HB⟩, by simp [intOf]; omega⟩
      · go_wp2
        go_ret
        exact ⟨rfl, unhide hb⟩

theorem eqS_all : ∀ d, EqS d
  | 0 => by
    rintro lo hi lo' hi' d' v v' l w ⟨rfl, a, c, rfl⟩ h' hhi hhi' hw
    obtain ⟨a', c', rfl, _⟩ := h'.form
    exact eqS_none _ _ _ _ _
  | d + 1 => eqS_succ (eqE_of (eqS_all d))
theorem eqE_all (d : Nat) : EqE d := eqE_of (eqS_all d)
end Go.Proofs.Ytjjfmpinekiheaa.Rule
