/-
  toRuleExpr, toRuleExprS; eqRuleExpr, eqRuleExprS.
-/
import Derived.Test.YtjjfmpinekiheaaCopy
namespace Go.Proofs.Ytjjfmpinekiheaa.Rule
set_option linter.unusedVariables false
open Go.RowKit Tiers

def ToE (d : Nat) : Prop := ∀ (lo hi : Nat) (v : Value) (e : Ex) (w : World), EV lo hi w d v e → hi ≤ w.heap.size → wt e ≤ 1048576 →
  Calls Try.prog 23 #[v] w fun x w' => ∃ v', x = .returned v' ∧ EV w.heap.size w'.heap.size w' d v' e ∧ Below w.heap.size w w'
def ToS (d : Nat) : Prop := ∀ (lo hi : Nat) (v : Value) (l : List Ex) (w : World), ES lo hi w d v l → hi ≤ w.heap.size → wtL l ≤ 1048576 →
  Calls Try.prog 57 #[v] w fun x w' => ∃ v', x = .returned v' ∧ ES w.heap.size w'.heap.size w' d v' l ∧ Below w.heap.size w w'

theorem toS_none (d : Nat) (a : Option Addr) (c : Nat) (w : World) :
    Calls Try.prog 57 #[.slice a 0 c] w fun x w' => ∃ v', x = .returned v' ∧ ES w.heap.size w'.heap.size w' d v' [] ∧ Below w.heap.size w w' := by
  have hmk0 : ∀ w : World, (Instr.makeSlice 23 (.int .i64 0) (.int .i64 0)).run Try.prog w = .ok (.slice (some ⟨w.heap.size, 0, none⟩) 0 0) (w.alloc (.cells #[] 26)) := fun w => by kernel_rfl
  go_enter Try.func57, Try.ntmps57
  go_wp2
  refine wp_loop_rounds 1 ?_
  rw [rounds_succ]
  go_wp2
  go_ret
  refine ⟨_, rfl, ?_, below_alloc _ _⟩
  cases d with
  | zero => exact ⟨rfl, _, _, rfl⟩
  | succ d => exact .inl ⟨rfl, _, _, rfl⟩

/-- five cells of block b, none of them frozen -/
def At5 (W : World) (B : Nat) (a b c d e : Value) : Prop := (W.cell? ⟨B, 0, none⟩ = some a ∧ W.cell? ⟨B, 1, none⟩ = some b ∧ W.cell? ⟨B, 2, none⟩ = some c ∧ W.cell? ⟨B, 3, none⟩ = some d ∧ W.cell? ⟨B, 4, none⟩ = some e) ∧
  W.frozen? ⟨B, 0, none⟩ = false ∧ W.frozen? ⟨B, 1, none⟩ = false ∧ W.frozen? ⟨B, 2, none⟩ = false ∧ W.frozen? ⟨B, 3, none⟩ = false ∧ W.frozen? ⟨B, 4, none⟩ = false
theorem At5.kept {W W' : World} {B : Nat} {a b c d e : Value} (h : At5 W B a b c d e) (hb : W'.heap[B]? = W.heap[B]?) : At5 W' B a b c d e := by
  obtain ⟨⟨h0, h1, h2, h3, h4⟩, f0, f1, f2, f3, f4⟩ := h
  exact ⟨⟨(World.cell?_of_block (w := W) hb).trans h0, (World.cell?_of_block (w := W) hb).trans h1, (World.cell?_of_block (w := W) hb).trans h2, (World.cell?_of_block (w := W) hb).trans h3, (World.cell?_of_block (w := W) hb).trans h4⟩,
    (World.frozen?_of_block (w := W) hb).trans f0, (World.frozen?_of_block (w := W) hb).trans f1, (World.frozen?_of_block (w := W) hb).trans f2, (World.frozen?_of_block (w := W) hb).trans f3, (World.frozen?_of_block (w := W) hb).trans f4⟩
theorem At5.new (w : World) (a b c d e : Value) (t : TypeId) : At5 (w.alloc (.cells #[a, b, c, d, e] t)) w.heap.size a b c d e := by
  have e1 := (MapKept.heap_alloc w (.cells #[a, b, c, d, e] t)).1
  unfold At5
  simp only [World.cell?, World.frozen?]
  rw [e1]; simp
theorem At5.set3 {W : World} {B : Nat} {a b c d e : Value} (h : At5 W B a b c d e) (u : Value) : At5 (W.setCell ⟨B, 3, none⟩ u) B a b c u e := by
  obtain ⟨⟨h0, h1, h2, h3, h4⟩, hf⟩ := h
  refine ⟨⟨?_, ?_, ?_, World.cell?_setCell_same _ _ _ h3, ?_⟩, ?_⟩
  · rw [World.cell?_setCell_other _ _ _ _ (off_ne (by omega))]; exact h0
  · rw [World.cell?_setCell_other _ _ _ _ (off_ne (by omega))]; exact h1
  · rw [World.cell?_setCell_other _ _ _ _ (off_ne (by omega))]; exact h2
  · rw [World.cell?_setCell_other _ _ _ _ (off_ne (by omega))]; exact h4
  · simpa [World.frozen?_setCell] using hf
theorem At5.lt {W : World} {B : Nat} {a b c d e : Value} (h : At5 W B a b c d e) : B < W.heap.size := lt_of_cell h.1.1

theorem wtL_len (l : List Ex) : l.length ≤ wtL l := by rw [wtL_eq]; omega

set_option maxHeartbeats 1600000 in
theorem toE_of {d : Nat} (H : ToS d) : ToE d := by
  rintro lo hi v e w ⟨kv, tv, rfl, hz, hk, ht⟩ hhi hw
  have HS := hide H
  have HK := hide hk
  have HT := hide ht
  have HW := hide (wt_eq e)
  have HZ := hide hz
  clear hk ht H hz
  obtain ⟨k, q, m, ks, ts⟩ := e
  simp only [Ex.kind, Ex.num, Ex.meter, Ex.kids, Ex.tiers] at *
  generalize wt (.mk k q m ks ts) = W at *
  have n1 := At5.new w (.int .i64 k) (.int .i64 q) (.string m) kv tv 47
  have n2 := At5.new (w.alloc (.cells #[.int .i64 k, .int .i64 q, .string m, kv, tv] 47)) (.int .i64 0) (.int .i64 0) (.string ⟨#[]⟩) (.slice none 0 0) (.slice none 0 0) 26
  have n3 := At5.new ((w.alloc (.cells #[.int .i64 k, .int .i64 q, .string m, kv, tv] 47)).alloc (.cells #[.int .i64 0, .int .i64 0, .string ⟨#[]⟩, .slice none 0 0, .slice none 0 0] 26)) (.int .i64 k) (.int .i64 q) (.string m) (.slice none 0 0) (.slice none 0 0) 26
  simp only [World.size_alloc] at n2 n3
  have N : Hid (∀ w1, Below (((w.alloc (.cells #[.int .i64 k, .int .i64 q, .string m, kv, tv] 47)).alloc (.cells #[.int .i64 0, .int .i64 0, .string ⟨#[]⟩, .slice none 0 0, .slice none 0 0] 26)).alloc (.cells #[.int .i64 k, .int .i64 q, .string m, .slice none 0 0, .slice none 0 0] 26)).heap.size (((w.alloc (.cells #[.int .i64 k, .int .i64 q, .string m, kv, tv] 47)).alloc (.cells #[.int .i64 0, .int .i64 0, .string ⟨#[]⟩, .slice none 0 0, .slice none 0 0] 26)).alloc (.cells #[.int .i64 k, .int .i64 q, .string m, .slice none 0 0, .slice none 0 0] 26)) w1 →
      At5 w1 w.heap.size (.int .i64 k) (.int .i64 q) (.string m) kv tv ∧ At5 w1 (w.heap.size + 1) (.int .i64 0) (.int .i64 0) (.string ⟨#[]⟩) (.slice none 0 0) (.slice none 0 0) ∧ At5 w1 (w.heap.size + 1 + 1) (.int .i64 k) (.int .i64 q) (.string m) (.slice none 0 0) (.slice none 0 0) ∧ Below w.heap.size w w1) := hide (fun w1 hb => by
    refine ⟨n1.kept ?_, n2.kept ?_, n3.kept (hb.block _ (by simp)), ?_⟩
    · rw [hb.block _ (by simp; omega), Below.heap_alloc _ _ _ (by simp; omega), Below.heap_alloc _ _ _ (by simp)]
    · rw [hb.block _ (by simp), Below.heap_alloc _ _ _ (by simp)]
    · exact ((((Below.refl _ w).alloc (Nat.le_refl _) _).alloc (by simp) _).alloc (by simp; omega) _).trans (hb.mono (by simp; omega)))
  have K0 : Hid (ES lo hi (((w.alloc (.cells #[.int .i64 k, .int .i64 q, .string m, kv, tv] 47)).alloc (.cells #[.int .i64 0, .int .i64 0, .string ⟨#[]⟩, .slice none 0 0, .slice none 0 0] 26)).alloc (.cells #[.int .i64 k, .int .i64 q, .string m, .slice none 0 0, .slice none 0 0] 26)) d kv ks) := hide ((unhide HK).kept (same_below ((((Below.refl _ w).alloc (Nat.le_refl _) _).alloc (by simp) _).alloc (by simp; omega) _) hhi))
  clear n1 n2 n3 HK
  go_enter Try.func23, Try.ntmps23
  go_wp2_with (fail)
  refine (unhide HS lo hi kv ks _ (unhide K0) (by simp; omega) (by have := unhide HW; omega)).mono ?_
  rintro x w1 ⟨kv', rfl, hk', hb1⟩
  obtain ⟨b1, b2, b3, hB⟩ := unhide N w1 hb1
  have hz1 : w.heap.size + 3 ≤ w1.heap.size := by have := hb1.size; simp at this; omega
  have K1 : Hid (ES (w.heap.size + 3) w1.heap.size w1 d kv' ks) := hide (hk'.mono (by simp) (Nat.le_refl _))
  have HB1 := hide hB
  have T1 := hide ((unhide HT).kept (same_below hB hhi))
  have A2 := hide b2
  have A3 := hide b3
  obtain ⟨⟨_, _, _, _, a4⟩, _⟩ := b1
  obtain ⟨⟨o0, o1, o2, o3, o4⟩, g0, g1, g2, g3, g4⟩ := b3
  obtain ⟨ka, kc, rfl, _⟩ := hk'.form
  clear hb1 hB hk' b2 N HT K0
  go_wp2_with (fail)
  have hB2 : Below w1.heap.size w1 w1 := Below.refl _ _
  have tl : TL lo hi (w1.setCell ⟨w.heap.size + 1 + 1, 3, none⟩ (.slice ka ks.length kc)) tv ts := (unhide T1).kept (fun b h1 h2 => Below.heap_setCell w1 ⟨w.heap.size + 1 + 1, 3, none⟩ _ b (by simp; omega))
  refine (toTiersL tv ts _ tl.toTR (by have := unhide HW; omega)).mono ?_
  rintro x w3 ⟨tv', rfl, ht', hb3⟩
  have A3' := ((unhide A3).set3 (.slice ka ks.length kc)).kept (hb3.block _ (by simp; omega))
  have A2' := (unhide A2).kept (show w3.heap[w.heap.size + 1]? = w1.heap[w.heap.size + 1]? from by rw [hb3.block _ (by simp; omega)]; exact Below.heap_setCell w1 ⟨w.heap.size + 1 + 1, 3, none⟩ _ _ (by simp))
  have K3 : Hid (ES (w.heap.size + 3) w3.heap.size w3 d (.slice ka ks.length kc) ks) := hide (((unhide K1).kept (same_trans (same_set w1 (w.heap.size + 1 + 1) 3 _ (by omega)) (same_below hb3 (by simp)))).mono (Nat.le_refl _) (by have := hb3.size; simpa using this))
  have T3 : Hid (TL (w.heap.size + 3) w3.heap.size w3 tv' ts) := hide (ht'.mono (by simp; omega) (Nat.le_refl _))
  have HB3 : Hid (Below w.heap.size w w3) := hide (((unhide HB1).setCell (p := ⟨w.heap.size + 1 + 1, 3, none⟩) (by simp; omega) _).trans (hb3.mono (by simp; omega)))
  obtain ⟨ta, tc, rfl⟩ : ∃ a c, tv' = .slice a ts.length c := by
    rcases ht' with ⟨rfl, a, c, rfl⟩ | ⟨b, o, cap, rfl, _⟩
    · exact ⟨_, _, rfl⟩
    · exact ⟨_, _, rfl⟩
  have hz3 : w.heap.size + 3 ≤ w3.heap.size := by have := hb3.size; simp at this; omega
  obtain ⟨⟨p0, p1, p2, p3, p4⟩, q0, q1, q2, q3, q4⟩ := A3'
  obtain ⟨⟨r0, r1, r2, r3, r4⟩, s0, s1, s2, s3, s4⟩ := A2'
  clear o0 o1 o2 o3 o4 g0 g1 g2 g3 g4 hb3 ht' tl HB1 T1 K1 A2 A3 a4 hB2
  go_wp2_with (fail)
  have hsame : Same (w.heap.size + 3) w3.heap.size w3 ((((((w3.setCell ⟨w.heap.size + 1 + 1, 4, none⟩ (.slice ta ts.length tc)).setCell ⟨w.heap.size + 1, 0, none⟩ (.int .i64 k)).setCell ⟨w.heap.size + 1, 1, none⟩ (.int .i64 q)).setCell ⟨w.heap.size + 1, 2, none⟩ (.string m)).setCell ⟨w.heap.size + 1, 3, none⟩ (.slice ka ks.length kc)).setCell ⟨w.heap.size + 1, 4, none⟩ (.slice ta ts.length tc)) :=
    same_trans (same_trans (same_trans (same_trans (same_trans (same_set _ _ _ _ (by omega)) (same_set _ _ _ _ (by omega))) (same_set _ _ _ _ (by omega))) (same_set _ _ _ _ (by omega))) (same_set _ _ _ _ (by omega))) (same_set _ _ _ _ (by omega))
  refine bodyPost_ret (v := .agg #[.int .i64 k, .int .i64 q, .string m, .slice ka ks.length kc, .slice ta ts.length tc]) (by simp [results, Try.results23, go_sem, r0, r1, r2, r3, r4]) rfl ⟨_, rfl, ⟨.slice ka ks.length kc, .slice ta ts.length tc, rfl, unhide HZ, ?_, ?_⟩, ?_⟩
  · exact ((unhide K3).kept hsame).mono (by omega) (by simp)
  · exact ((unhide T3).kept hsame).mono (by omega) (by simp)
  · exact ((((((unhide HB3).setCell (p := ⟨w.heap.size + 1 + 1, 4, none⟩) (by simp; omega) _).setCell (p := ⟨w.heap.size + 1, 0, none⟩) (by simp) _).setCell (p := ⟨w.heap.size + 1, 1, none⟩) (by simp) _).setCell (p := ⟨w.heap.size + 1, 2, none⟩) (by simp) _).setCell (p := ⟨w.heap.size + 1, 3, none⟩) (by simp) _).setCell (p := ⟨w.heap.size + 1, 4, none⟩) (by simp) _

set_option maxHeartbeats 1600000 in
theorem toS_succ {d : Nat} (H : ToE d) : ToS (d + 1) := by
  rintro lo hi v l w h hhi hw
  have HS := hide H
  clear H
  rcases h with ⟨rfl, a, c, rfl⟩ | ⟨b, o, cap, rfl, hl, k1, k2, hc⟩
  · exact toS_none _ _ _ _
  · have hll := wtL_len l
    have hmk := makeE l.length (by omega)
    have HC := hide hc
    have hbw : b < w.heap.size := by omega
    have HW : Hid (∀ k, k < l.length → wt (l.getD k E0) ≤ 1048576) := hide (fun k hk => by have := wt_at hk; omega)
    have HL := hide hl
    unfold maxLen at hl
    clear hc
    go_enter Try.func57, Try.ntmps57
    go_wp2
    go_loopw [4] (fun i wr => ∃ k : Nat, k ≤ l.length ∧ i = .int .i64 k ∧ Hid (ECopy wr w.heap.size d k l) ∧ Hid (Below w.heap.size w wr)) (fun i _ => l.length - (intOf i).toNat)
    case atStart => exact ⟨0, Nat.zero_le _, rfl, hide (ECopy.made w l d _), hide (below_alloc _ _)⟩
    case round =>
      obtain ⟨k, hk, rfl, hd, hb⟩ := hrel
      by_cases hlt : k < l.length
      · obtain ⟨kv, tv, ⟨c0', c1', c2', c3', c4'⟩, hz, hkk, htt⟩ := unhide HC k hlt
        have c0 := ((unhide hb).cell (p := ⟨b, o + k * 5, none⟩) hbw).trans c0'
        have c1 := ((unhide hb).cell (p := ⟨b, o + k * 5 + 1, none⟩) hbw).trans c1'
        have c2 := ((unhide hb).cell (p := ⟨b, o + k * 5 + 2, none⟩) hbw).trans c2'
        have c3 := ((unhide hb).cell (p := ⟨b, o + k * 5 + 3, none⟩) hbw).trans c3'
        have c4 := ((unhide hb).cell (p := ⟨b, o + k * 5 + 4, none⟩) hbw).trans c4'
        have HE : Hid (EV lo hi wr d (.agg #[.int .i64 (l.getD k E0).kind, .int .i64 (l.getD k E0).num, .string (l.getD k E0).meter, kv, tv]) (l.getD k E0)) := hide ⟨kv, tv, rfl, hz, hkk.kept (same_below (unhide hb) hhi), htt.kept (same_below (unhide hb) hhi)⟩
        have HW' := hide (unhide HW k hlt)
        have HST : Hid (∀ w1, ECopy w1 w.heap.size d k l → ∀ v', EV (w.heap.size + 1) w1.heap.size w1 d v' (l.getD k E0) → ∃ kv tv, v' = .agg #[.int .i64 (l.getD k E0).kind, .int .i64 (l.getD k E0).num, .string (l.getD k E0).meter, kv, tv] ∧ (∃ a c, kv = .slice a (l.getD k E0).kids.length c) ∧ (∃ a c, tv = .slice a (l.getD k E0).tiers.length c) ∧ ECopy (set5 w1 w.heap.size k (.int .i64 (l.getD k E0).kind) (.int .i64 (l.getD k E0).num) (.string (l.getD k E0).meter) kv tv) w.heap.size d (k + 1) l) := hide (by
          rintro w1 h1 v' ⟨kv, tv, rfl, hz, hK, hT⟩
          refine ⟨kv, tv, rfl, ?_, ?_, h1.step hlt hz hK hT⟩
          · obtain ⟨a, c, h, _⟩ := hK.form; exact ⟨a, c, h⟩
          · rcases hT with ⟨e, a, c, rfl⟩ | ⟨b, o, cap, rfl, _⟩
            · rw [e]; exact ⟨_, _, rfl⟩
            · exact ⟨_, _, rfl⟩)
        have HSZ : Hid (w.heap.size < wr.heap.size) := hide (unhide hd).1
        clear c0' c1' c2' c3' c4' hz hkk htt
        generalize l.getD k E0 = e at *
        generalize hek : e.kind = ek at *
        generalize hen : e.num = en at *
        generalize hem : e.meter = em at *
        clear hek hen hem
        generalize e.kids.length = kn at *
        generalize e.tiers.length = tn at *
        go_wp2_with (fail)
        refine (unhide HS lo hi _ e wr (unhide HE) (Nat.le_trans hhi (unhide hb).size) (unhide HW')).mono ?_
        rintro x w1 ⟨v', rfl, hv', hb1⟩
        have hd1 := (unhide hd).kept hb1
        obtain ⟨kv', tv', rfl, ⟨ka, kc, rfl⟩, ⟨ta, tc, rfl⟩, hst⟩ := unhide HST w1 hd1 v' (hv'.mono (unhide HSZ) (Nat.le_refl _))
        obtain ⟨x0, x1, x2, x3, x4, y0, y1, y2, y3, y4⟩ := hd1.2.2.1 k hlt
        have f0 := hd1.2.1 (k * 5)
        have f1 := hd1.2.1 (k * 5 + 1)
        have f2 := hd1.2.1 (k * 5 + 2)
        have f3 := hd1.2.1 (k * 5 + 3)
        have f4 := hd1.2.1 (k * 5 + 4)
        have HX := hide hst
        have HB1 : Hid (Below w.heap.size w w1) := hide (below_trans (unhide hb) hb1)
        clear hd1 hst hb1 hb hd hv' HST HE c0 c1 c2 c3 c4
        go_wp2_with (fail)
        exact ⟨⟨k + 1, by omega, by go_num, HX, hide (set5_below (unhide HB1) _ _ _ _ _ _ _ (Nat.le_refl _))⟩, by simp [intOf]; omega⟩
      · obtain rfl : k = l.length := by omega
        go_wp2_with (fail)
        go_ret
        exact ⟨_, rfl, (unhide hd).done (unhide HL) _, unhide hb⟩

theorem toS_all : ∀ d, ToS d
  | 0 => by
    rintro lo hi v l w ⟨rfl, a, c, rfl⟩ hhi hw
    exact toS_none _ _ _ _
  | d + 1 => toS_succ (toE_of (toS_all d))
theorem toE_all (d : Nat) : ToE d := toE_of (toS_all d)
end Go.Proofs.Ytjjfmpinekiheaa.Rule
