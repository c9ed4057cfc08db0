/-
  Expressions in memory, and the laws' own helpers on them: size, copy, compare.
-/
import Derived.Test.YtjjfmpinekiheaaTiers
import Derived.Test.YtjjfmpinekiheaaRuleM
namespace Go.Proofs.Ytjjfmpinekiheaa.Rule
set_option linter.unusedVariables false
open Go.RowKit Tiers

/-- the slice v holds the steps l, in a block from lo on and below hi -/
def TL (lo hi : Nat) (W : World) (v : Value) (l : List T) : Prop :=
  (l = [] ∧ ∃ a c, v = .slice a 0 c) ∨ ∃ b o cap, v = .slice (some ⟨b, o, none⟩) l.length cap ∧ lo ≤ b ∧ b < hi ∧ ∀ i, i < l.length → W.cell? ⟨b, o + i * 2, none⟩ = some (.int .i64 (l.getD i T0).1) ∧ W.cell? ⟨b, o + i * 2 + 1, none⟩ = some (.int .i64 (l.getD i T0).2)

theorem lt_of_cell {W : World} {b o : Nat} {v : Value} (h : W.cell? ⟨b, o, none⟩ = some v) : b < W.heap.size := by
  refine Nat.lt_of_not_le fun hn => ?_
  have h2 : W.heap[b]? = none := by simp; omega
  simp [World.cell?, h2] at h
theorem TL.toTR {lo hi : Nat} {W : World} {v : Value} {l : List T} (h : TL lo hi W v l) : TR W v l := by
  rcases h with h | ⟨b, o, cap, rfl, _, _, hc⟩
  · exact .inl h
  · by_cases h0 : l.length = 0
    · exact .inl ⟨List.length_eq_zero_iff.1 h0, _, cap, by rw [h0]⟩
    · exact .inr ⟨b, o, cap, rfl, lt_of_cell (hc 0 (by omega)).1, hc⟩
/-- W' is as W was from block lo on and below hi -/
def Same (lo hi : Nat) (W W' : World) : Prop := ∀ b, lo ≤ b → b < hi → W'.heap[b]? = W.heap[b]?
theorem TL.kept {lo hi : Nat} {W W' : World} {v : Value} {l : List T} (h : TL lo hi W v l) (hs : Same lo hi W W') : TL lo hi W' v l := by
  rcases h with h | ⟨b, o, cap, rfl, h1, h2, hc⟩
  · exact .inl h
  · exact .inr ⟨b, o, cap, rfl, h1, h2, fun i hi => ⟨(World.cell?_of_block (w := W) (hs b h1 h2)).trans (hc i hi).1, (World.cell?_of_block (w := W) (hs b h1 h2)).trans (hc i hi).2⟩⟩
theorem TL.mono {lo hi lo' hi' : Nat} {W : World} {v : Value} {l : List T} (h : TL lo hi W v l) (h1 : lo' ≤ lo) (h2 : hi ≤ hi') : TL lo' hi' W v l := by
  rcases h with h | ⟨b, o, cap, rfl, k1, k2, hc⟩
  · exact .inl h
  · exact .inr ⟨b, o, cap, rfl, by omega, by omega, hc⟩

/-- the slice v holds the expressions l: d deep at most, all in blocks from lo on and below hi -/
def ES (lo hi : Nat) (W : World) : Nat → Value → List Ex → Prop
  | 0, v, l => l = [] ∧ ∃ a c, v = .slice a 0 c
  | d + 1, v, l => (l = [] ∧ ∃ a c, v = .slice a 0 c) ∨ ∃ b o cap, v = .slice (some ⟨b, o, none⟩) l.length cap ∧ l.length ≤ maxLen ∧ lo ≤ b ∧ b < hi ∧ ∀ i, i < l.length →
      ∃ kv tv, (W.cell? ⟨b, o + i * 5, none⟩ = some (.int .i64 (l.getD i E0).kind) ∧ W.cell? ⟨b, o + i * 5 + 1, none⟩ = some (.int .i64 (l.getD i E0).num) ∧ W.cell? ⟨b, o + i * 5 + 2, none⟩ = some (.string (l.getD i E0).meter) ∧
        W.cell? ⟨b, o + i * 5 + 3, none⟩ = some kv ∧ W.cell? ⟨b, o + i * 5 + 4, none⟩ = some tv) ∧
        ((l.getD i E0).meter.size ≤ maxLen ∧ (l.getD i E0).tiers.length ≤ maxLen) ∧ ES lo hi W d kv (l.getD i E0).kids ∧ TL lo hi W tv (l.getD i E0).tiers
/-- the value v is the expression e -/
def EV (lo hi : Nat) (W : World) (d : Nat) (v : Value) (e : Ex) : Prop :=
  ∃ kv tv, v = .agg #[.int .i64 e.kind, .int .i64 e.num, .string e.meter, kv, tv] ∧ (e.meter.size ≤ maxLen ∧ e.tiers.length ≤ maxLen) ∧ ES lo hi W d kv e.kids ∧ TL lo hi W tv e.tiers

theorem ES.form {lo hi : Nat} {W : World} {d : Nat} {v : Value} {l : List Ex} (h : ES lo hi W d v l) : ∃ a c, v = .slice a l.length c ∧ l.length ≤ maxLen := by
  cases d with
  | zero => obtain ⟨rfl, a, c, rfl⟩ := h; exact ⟨a, c, rfl, by simp⟩
  | succ d =>
    rcases h with ⟨rfl, a, c, rfl⟩ | ⟨b, o, cap, rfl, hl, _⟩
    · exact ⟨a, c, rfl, by simp⟩
    · exact ⟨_, _, rfl, hl⟩
theorem ES.kept {lo hi : Nat} {W W' : World} (hs : Same lo hi W W') : ∀ {d : Nat} {v : Value} {l : List Ex}, ES lo hi W d v l → ES lo hi W' d v l := by
  intro d
  induction d with
  | zero => intro v l h; exact h
  | succ d ih =>
    intro v l h
    rcases h with h | ⟨b, o, cap, rfl, hl, h1, h2, hc⟩
    · exact .inl h
    · refine .inr ⟨b, o, cap, rfl, hl, h1, h2, fun i hi => ?_⟩
      obtain ⟨kv, tv, ⟨c0, c1, c2, c3, c4⟩, hz, hk, ht⟩ := hc i hi
      have hb := hs b h1 h2
      exact ⟨kv, tv, ⟨(World.cell?_of_block (w := W) hb).trans c0, (World.cell?_of_block (w := W) hb).trans c1, (World.cell?_of_block (w := W) hb).trans c2, (World.cell?_of_block (w := W) hb).trans c3, (World.cell?_of_block (w := W) hb).trans c4⟩, hz, ih hk, ht.kept hs⟩
theorem ES.mono {lo hi lo' hi' : Nat} {W : World} (h1 : lo' ≤ lo) (h2 : hi ≤ hi') : ∀ {d : Nat} {v : Value} {l : List Ex}, ES lo hi W d v l → ES lo' hi' W d v l := by
  intro d
  induction d with
  | zero => intro v l h; exact h
  | succ d ih =>
    intro v l h
    rcases h with h | ⟨b, o, cap, rfl, hl, k1, k2, hc⟩
    · exact .inl h
    · refine .inr ⟨b, o, cap, rfl, hl, by omega, by omega, fun i hi => ?_⟩
      obtain ⟨kv, tv, hcs, hz, hk, ht⟩ := hc i hi
      exact ⟨kv, tv, hcs, hz, ih hk, ht.mono h1 h2⟩
theorem EV.kept {lo hi : Nat} {W W' : World} {d : Nat} {v : Value} {e : Ex} (h : EV lo hi W d v e) (hs : Same lo hi W W') : EV lo hi W' d v e := by
  obtain ⟨kv, tv, rfl, hz, hk, ht⟩ := h
  exact ⟨kv, tv, rfl, hz, hk.kept hs, ht.kept hs⟩
theorem EV.mono {lo hi lo' hi' : Nat} {W : World} {d : Nat} {v : Value} {e : Ex} (h : EV lo hi W d v e) (h1 : lo' ≤ lo) (h2 : hi ≤ hi') : EV lo' hi' W d v e := by
  obtain ⟨kv, tv, rfl, hz, hk, ht⟩ := h
  exact ⟨kv, tv, rfl, hz, hk.mono h1 h2, ht.mono h1 h2⟩
theorem same_below {lo hi : Nat} {W W' : World} (hb : Below W.heap.size W W') (h : hi ≤ W.heap.size) : Same lo hi W W' := fun b _ h2 => hb.block b (by omega)
theorem same_trans {lo hi : Nat} {A B C : World} (h : Same lo hi A B) (k : Same lo hi B C) : Same lo hi A C := fun b h1 h2 => (k b h1 h2).trans (h b h1 h2)
theorem same_set {lo hi : Nat} (W : World) (g o : Nat) (u : Value) (h : g < lo) : Same lo hi W (W.setCell ⟨g, o, none⟩ u) := fun b h1 _ => Below.heap_setCell W ⟨g, o, none⟩ u b (by simp; omega)

/-! ### size -/

def SzE (d : Nat) : Prop := ∀ (lo hi : Nat) (v : Value) (e : Ex) (n : Int) (w : World), EV lo hi w d v e → hi ≤ w.heap.size → 0 ≤ n → n ≤ 1048576 →
  Calls Try.prog 21 #[v, .int .i64 n] w fun x w' => ∃ r : Int, x = .returned (.int .i64 r) ∧ -1 ≤ r ∧ (0 ≤ r → r = n - wt e) ∧ Below w.heap.size w w'
def SzS (d : Nat) : Prop := ∀ (lo hi : Nat) (v : Value) (l : List Ex) (n : Int) (w : World), ES lo hi w d v l → hi ≤ w.heap.size → 0 ≤ n → n ≤ 1048576 →
  Calls Try.prog 55 #[v, .int .i64 n] w fun x w' => ∃ r : Int, x = .returned (.int .i64 r) ∧ -1 ≤ r ∧ (0 ≤ r → r = n - wtL l) ∧ Below w.heap.size w w'

theorem szS_none (a : Option Addr) (c : Nat) (n : Int) (w : World) (h0 : 0 ≤ n) (h1 : n ≤ 1048576) :
    Calls Try.prog 55 #[.slice a 0 c, .int .i64 n] w fun x w' => ∃ r : Int, x = .returned (.int .i64 r) ∧ -1 ≤ r ∧ (0 ≤ r → r = n - wtL []) ∧ Below w.heap.size w w' := by
  go_enter Try.func55, Try.ntmps55
  go_wp2
  refine wp_loop_rounds 1 ?_
  rw [rounds_succ]
  go_wp2
  go_ret
  exact ⟨_, rfl, by omega, fun h => by simp [wtL], Below.refl _ _⟩

theorem new5 (w : World) (a b c d e : Value) (t : TypeId) : (w.alloc (.cells #[a, b, c, d, e] t)).cell? ⟨w.heap.size, 0, none⟩ = some a ∧ (w.alloc (.cells #[a, b, c, d, e] t)).cell? ⟨w.heap.size, 1, none⟩ = some b ∧ (w.alloc (.cells #[a, b, c, d, e] t)).cell? ⟨w.heap.size, 2, none⟩ = some c ∧
    (w.alloc (.cells #[a, b, c, d, e] t)).cell? ⟨w.heap.size, 3, none⟩ = some d ∧ (w.alloc (.cells #[a, b, c, d, e] t)).cell? ⟨w.heap.size, 4, none⟩ = some e := by
  have e1 := (MapKept.heap_alloc w (.cells #[a, b, c, d, e] t)).1
  simp only [World.cell?]
  rw [e1]; simp
/-- a boxed expression, behind a call that kept what there was -/
theorem box5 (w w1 : World) (a b c d e : Value) (t : TypeId) (hb : Below (w.alloc (.cells #[a, b, c, d, e] t)).heap.size (w.alloc (.cells #[a, b, c, d, e] t)) w1) :
    w1.cell? ⟨w.heap.size, 0, none⟩ = some a ∧ w1.cell? ⟨w.heap.size, 1, none⟩ = some b ∧ w1.cell? ⟨w.heap.size, 2, none⟩ = some c ∧ w1.cell? ⟨w.heap.size, 3, none⟩ = some d ∧ w1.cell? ⟨w.heap.size, 4, none⟩ = some e ∧ Below w.heap.size w w1 := by
  obtain ⟨n0, n1, n2, n3, n4⟩ := new5 w a b c d e t
  exact ⟨(hb.cell (p := ⟨w.heap.size, 0, none⟩) (by simp)).trans n0, (hb.cell (p := ⟨w.heap.size, 1, none⟩) (by simp)).trans n1, (hb.cell (p := ⟨w.heap.size, 2, none⟩) (by simp)).trans n2, (hb.cell (p := ⟨w.heap.size, 3, none⟩) (by simp)).trans n3, (hb.cell (p := ⟨w.heap.size, 4, none⟩) (by simp)).trans n4,
    ((Below.refl _ w).alloc (Nat.le_refl _) _).trans (hb.mono (by simp))⟩
theorem below_alloc (w : World) (o : Obj) : Below w.heap.size w (w.alloc o) := (Below.refl _ _).alloc (Nat.le_refl _) o

set_option maxHeartbeats 800000 in
theorem szE_of {d : Nat} (H : SzS d) : SzE d := by
  rintro lo hi v e n w ⟨kv, tv, rfl, ⟨z1, z2⟩, hk, ht⟩ hhi h0 h1
  have hz2 := z2
  unfold maxLen at z1 z2
  have HS := hide H
  have HK := hide hk
  have HT := hide ht
  have HW := hide (wt_eq e)
  clear hk ht H
  obtain ⟨k, q, m, ks, ts⟩ := e
  simp only [Ex.kind, Ex.num, Ex.meter, Ex.kids, Ex.tiers] at *
  generalize wt (.mk k q m ks ts) = W at *
  by_cases m1 : n - m.size < 0
  · go_enter Try.func21, Try.ntmps21
    go_wp2_with (fail)
    go_ret
    exact ⟨_, rfl, by omega, fun h => by omega, below_alloc _ _⟩
  · go_enter Try.func21, Try.ntmps21
    go_wp2_with (fail)
    refine (unhide HS lo hi kv ks (n - m.size) _ ((unhide HK).kept (same_below (below_alloc _ _) hhi)) (by simp; omega) (by omega) (by omega)).mono ?_
    rintro x w1 ⟨r, rfl, r1, r2, hb1⟩
    obtain ⟨c0, c1, c2, c3, c4, hB⟩ := box5 _ _ _ _ _ _ _ _ hb1
    have HB := hide hB
    have HT1 := hide ((unhide HT).kept (same_below hB hhi)).toTR
    have R2 := hide r2
    clear hb1 hB r2
    by_cases hr : r < 0
    · go_wp2_with (fail)
      go_ret
      exact ⟨_, rfl, by omega, fun h => by omega, unhide HB⟩
    · have hr2 := unhide R2 (by omega)
      have HR2 := hide hr2
      clear R2 hr2
      go_wp2_with (fail)
      refine (szTiers tv ts r _ (unhide HT1) hz2 (by omega) (by have := unhide HR2; omega)).mono ?_
      rintro x w2 ⟨r', rfl, r1', r2', rfl⟩
      have R2' := hide r2'
      clear r2'
      by_cases hr' : r' < 0
      · go_wp2_with (fail)
        go_ret
        exact ⟨_, rfl, by omega, fun h => by omega, unhide HB⟩
      · go_wp2_with (fail)
        go_ret
        exact ⟨_, rfl, by omega, fun h => by have := unhide HW; have := unhide HR2; have := unhide R2' (by omega); omega, unhide HB⟩

set_option maxHeartbeats 800000 in
theorem szS_succ {d : Nat} (H : SzE d) : SzS (d + 1) := by
  rintro lo hi v l n w h hhi h0 h1
  obtain ⟨a0, c0, hv, hl⟩ := h.form
  have hL := wtL_eq l
  have HL := hide hL
  unfold maxLen at hl
  have HS := hide H
  clear H
  by_cases hneg : n - l.length < 0
  · subst hv
    clear h hL
    go_enter Try.func55, Try.ntmps55
    go_wp2
    go_ret
    exact ⟨_, rfl, by omega, fun h => by omega, Below.refl _ _⟩
  rcases h with ⟨rfl, a, c, rfl⟩ | ⟨b, o, cap, rfl, _, k1, k2, hc⟩
  · exact szS_none _ _ _ _ h0 h1
  · have HC := hide hc
    have HW : Hid (∀ k, k < l.length → wtS (l.take (k + 1)) = wtS (l.take k) + wt (l.getD k E0)) := hide (fun k hk => wtS_take hk)
    clear hc hv hL
    go_enter Try.func55, Try.ntmps55
    go_wp2
    go_loopw [1, 5] (fun t i wr => ∃ (k : Nat) (q : Int), k ≤ l.length ∧ i = .int .i64 k ∧ t = .int .i64 q ∧ 0 ≤ q ∧ q ≤ n ∧ Hid (q = n - l.length - wtS (l.take k)) ∧ Hid (Below w.heap.size w wr)) (fun _ i _ => l.length - (intOf i).toNat)
    case atStart => exact ⟨0, _, by omega, rfl, rfl, by omega, by omega, hide (by simp [wtS]), hide (Below.refl _ _)⟩
    case round =>
      obtain ⟨k, q, hk, rfl, rfl, hq0, hq1, hq2, hb⟩ := hrel
      by_cases hlt : k < l.length
      · obtain ⟨kv, tv, ⟨c0', c1', c2', c3', c4'⟩, hz, hkk, htt⟩ := unhide HC k hlt
        have hbw : b < w.heap.size := by omega
        have c0 := ((unhide hb).cell (p := ⟨b, o + k * 5, none⟩) hbw).trans c0'
        have c1 := ((unhide hb).cell (p := ⟨b, o + k * 5 + 1, none⟩) hbw).trans c1'
        have c2 := ((unhide hb).cell (p := ⟨b, o + k * 5 + 2, none⟩) hbw).trans c2'
        have c3 := ((unhide hb).cell (p := ⟨b, o + k * 5 + 3, none⟩) hbw).trans c3'
        have c4 := ((unhide hb).cell (p := ⟨b, o + k * 5 + 4, none⟩) hbw).trans c4'
        have HE : Hid (EV lo hi wr d (.agg #[.int .i64 (l.getD k E0).kind, .int .i64 (l.getD k E0).num, .string (l.getD k E0).meter, kv, tv]) (l.getD k E0)) := hide ⟨kv, tv, rfl, hz, hkk.kept (same_below (unhide hb) hhi), htt.kept (same_below (unhide hb) hhi)⟩
        have HW' := hide (unhide HW k hlt)
        clear c0' c1' c2' c3' c4' hz hkk htt
        generalize l.getD k E0 = e at *
        generalize e.kind = ek at *
        generalize e.num = en at *
        generalize e.meter = em at *
        go_wp2_with (fail)
        refine (unhide HS lo hi _ e q wr (unhide HE) (Nat.le_trans hhi (unhide hb).size) hq0 (by omega)).mono ?_
        rintro x w1 ⟨r, rfl, r1, r2, hb1⟩
        have R2 := hide r2
        have HB : Hid (Below w.heap.size w w1) := hide (below_trans (unhide hb) hb1)
        clear hb hb1 r2
        by_cases hr : r < 0
        · go_wp2_with (fail)
          go_ret
          exact ⟨_, rfl, by omega, fun h => by omega, unhide HB⟩
        · have R3 := hide (unhide R2 (by omega))
          go_wp2_with (fail)
          exact ⟨⟨k + 1, r, by omega, by go_num, rfl, by omega, by have := unhide R3; omega, hide (by have := unhide R3; have := unhide HW'; have := unhide hq2; omega), HB⟩, by simp [intOf]; omega⟩
      · obtain rfl : k = l.length := by omega
        go_wp2_with (fail)
        go_ret
        exact ⟨_, rfl, by omega, fun h => by have := unhide hq2; have := unhide HL; rw [List.take_length] at *; omega, unhide hb⟩

theorem szS_all : ∀ d, SzS d
  | 0 => by
    rintro lo hi v l n w ⟨rfl, a, c, rfl⟩ hhi h0 h1
    exact szS_none _ _ _ _ h0 h1
  | d + 1 => szS_succ (szE_of (szS_all d))
theorem szE_all (d : Nat) : SzE d := szE_of (szS_all d)
end Go.Proofs.Ytjjfmpinekiheaa.Rule
