/-
  Expressions in memory, and the laws' own helpers on them: size, copy, compare.
-/
import Derived.Test.YtdpefmjlmpjjbaaTiers
import Derived.Test.YtdpefmjlmpjjbaaRuleM
namespace Go.Proofs.Ytdpefmjlmpjjbaa.Rule
set_option linter.unusedVariables false
open Go.RowKit Tiers

/-- the slice v holds the steps l, in a block from lo on and below hi -/
def TL (lo hi : Nat) (W : World) (v : Value) (l : List T) : Prop :=
  (l = [] ∧ ∃ a c, v = .slice a 0 c) ∨ ∃ b o cap, v = .slice (some ⟨b, o, none⟩) l.length cap ∧ lo ≤ b ∧ b < hi ∧ ∀ i, i < l.length → W.cell? ⟨b, o + i * 2, none⟩ = some (.int .i64 (l.getD i T0).1) ∧ W.cell? ⟨b, o + i * 2 + 1, none⟩ = some (.int .i64 (l.getD i T0).2)

theorem lt_of_cell {W : World} {b o : Nat} {v : Value} (h : W.cell? ⟨b, o, none⟩ = some v) : b < W.heap.size := by
  refine Nat.lt_of_not_le fun hn => ?_
  have h2 : W.heap[b]? = none := by simp; omega
  simp [World.cell?, h2] at h
theorem TL.toTR {lo hi : Nat} {W : World} {v : Value} {l : List T} (h : TL lo hi W v l) : TR W v l := by
  rcases h with h | ⟨b, o, cap, rfl, _, _, hc⟩
  · exact .inl h
  · by_cases h0 : l.length = 0
    · exact .inl ⟨List.length_eq_zero_iff.1 h0, _, cap, by rw [h0]⟩
    · exact .inr ⟨b, o, cap, rfl, lt_of_cell (hc 0 (by omega)).1, hc⟩
/-- W' is as W was from block lo on and below hi -/
def Same (lo hi : Nat) (W W' : World) : Prop := ∀ b, lo ≤ b → b < hi → W'.heap[b]? = W.heap[b]?
theorem TL.kept {lo hi : Nat} {W W' : World} {v : Value} {l : List T} (h : TL lo hi W v l) (hs : Same lo hi W W') : TL lo hi W' v l := by
  rcases h with h | ⟨b, o, cap, rfl, h1, h2, hc⟩
  · exact .inl h
  · exact .inr ⟨b, o, cap, rfl, h1, h2, fun i hi => ⟨(World.cell?_of_block (w := W) (hs b h1 h2)).trans (hc i hi).1, (World.cell?_of_block (w := W) (hs b h1 h2)).trans (hc i hi).2⟩⟩
theorem TL.mono {lo hi lo' hi' : Nat} {W : World} {v : Value} {l : List T} (h : TL lo hi W v l) (h1 : lo' ≤ lo) (h2 : hi ≤ hi') : TL lo' hi' W v l := by
  rcases h with h | ⟨b, o, cap, rfl, k1, k2, hc⟩
  · exact .inl h
  · exact .inr ⟨b, o, cap, rfl, by omega, by omega, hc⟩

/-- the slice v holds the expressions l: d deep at most, all in blocks from lo on and below hi -/
def ES (lo hi : Nat) (W : World) : Nat → Value → List Ex → Prop
  | 0, v, l => l = [] ∧ ∃ a c, v = .slice a 0 c
  | d + 1, v, l => (l = [] ∧ ∃ a c, v = .slice a 0 c) ∨ ∃ b o cap, v = .slice (some ⟨b, o, none⟩) l.length cap ∧ l.length ≤ maxLen ∧ lo ≤ b ∧ b < hi ∧ ∀ i, i < l.length →
      ∃ kv tv, (W.cell? ⟨b, o + i * 5, none⟩ = some (.int .i64 (l.getD i E0).kind) ∧ W.cell? ⟨b, o + i * 5 + 1, none⟩ = some (.int .i64 (l.getD i E0).num) ∧ W.cell? ⟨b, o + i * 5 + 2, none⟩ = some (.string (l.getD i E0).meter) ∧
        W.cell? ⟨b, o + i * 5 + 3, none⟩ = some kv ∧ W.cell? ⟨b, o + i * 5 + 4, none⟩ = some tv) ∧
        ((l.getD i E0).meter.size ≤ maxLen ∧ (l.getD i E0).tiers.length ≤ maxLen) ∧ ES lo hi W d kv (l.getD i E0).kids ∧ TL lo hi W tv (l.getD i E0).tiers
/-- the value v is the expression e -/
def EV (lo hi : Nat) (W : World) (d : Nat) (v : Value) (e : Ex) : Prop :=
  ∃ kv tv, v = .agg #[.int .i64 e.kind, .int .i64 e.num, .string e.meter, kv, tv] ∧ (e.meter.size ≤ maxLen ∧ e.tiers.length ≤ maxLen) ∧ ES lo hi W d kv e.kids ∧ TL lo hi W tv e.tiers

theorem ES.form {lo hi : Nat} {W : World} {d : Nat} {v : Value} {l : List Ex} (h : ES lo hi W d v l) : ∃ a c, v = .slice a l.length c ∧ l.length ≤ maxLen := by
  cases d with
  | zero => obtain ⟨rfl, a, c, rfl⟩ := h; exact ⟨a, c, rfl, by simp⟩
  | succ d =>
    rcases h with ⟨rfl, a, c, rfl⟩ | ⟨b, o, cap, rfl, hl, _⟩
    · exact ⟨a, c, rfl, by simp⟩
    · exact ⟨_, _, rfl, hl⟩
theorem ES.kept {lo hi : Nat} {W W' : World} (hs : Same lo hi W W') : ∀ {d : Nat} {v : Value} {l : List Ex}, ES lo hi W d v l → ES lo hi W' d v l := by
  intro d
  induction d with
  | zero => intro v l h; exact h
  | succ d ih =>
    intro v l h
    rcases h with h | ⟨b, o, cap, rfl, hl, h1, h2, hc⟩
    · exact .inl h
    · refine .inr ⟨b, o, cap, rfl, hl, h1, h2, fun i hi => ?_⟩
      obtain ⟨kv, tv, ⟨c0, c1, c2, c3, c4⟩, hz, hk, ht⟩ := hc i hi
      have hb := hs b h1 h2
      exact ⟨kv, tv, ⟨(World.cell?_of_block (w := W) hb).trans c0, (World.cell?_of_block (w := W) hb).trans c1, (World.cell?_of_block (w := W) hb).trans c2, (World.cell?_of_block (w := W) hb).trans c3, (World.cell?_of_block (w := W) hb).trans c4⟩, hz, ih hk, ht.kept hs⟩
theorem ES.mono {lo hi lo' hi' : Nat} {W : World} (h1 : lo' ≤ lo) (h2 : hi ≤ hi') : ∀ {d : Nat} {v : Value} {l : List Ex}, ES lo hi W d v l → ES lo' hi' W d v l := by
  intro d
  induction d with
  | zero => intro v l h; exact h
  | succ d ih =>
    intro v l h
    rcases h with h | ⟨b, o, cap, rfl, hl, k1, k2, hc⟩
    · exact .inl h
    · refine .inr ⟨b, o, cap, rfl, hl, by omega, by omega, fun i hi => ?_⟩
      obtain ⟨kv, tv, hcs, hz, hk, ht⟩ := hc i hi
      exact ⟨kv, tv, hcs, hz, ih hk, ht.mono h1 h2⟩
theorem EV.kept {lo hi : Nat} {W W' : World} {d : Nat} {v : Value} {e : Ex} (h : EV lo hi W d v e) (hs : Same lo hi W W') : EV lo hi W' d v e := by
  obtain ⟨kv, tv, rfl, hz, hk, ht⟩ := h
  exact ⟨kv, tv, rfl, hz, hk.kept hs, ht.kept hs⟩
theorem EV.mono {lo hi lo' hi' : Nat} {W : World} {d : Nat} {v : Value} {e : Ex} (h : EV lo hi W d v e) (h1 : lo' ≤ lo) (h2 : hi ≤ hi') : EV lo' hi' W d v e := by
  obtain ⟨kv, tv, rfl, hz, hk, ht⟩ := h
  exact ⟨kv, tv, rfl, hz, hk.mono h1 h2, ht.mono h1 h2⟩
theorem same_below {lo hi : Nat} {W W' : World} (hb : Below W.heap.size W W') (h : hi ≤ W.heap.size) : Same lo hi W W' := fun b _ h2 => hb.block b (by omega)
theorem same_trans {lo hi : Nat} {A B C : World} (h : Same lo hi A B) (k : Same lo hi B C) : Same lo hi A C := fun b h1 h2 => (k b h1 h2).trans (h b h1 h2)
theorem same_set {lo hi : Nat} (W : World) (g o : Nat) (u : Value) (h : g < lo) : Same lo hi W (W.setCell ⟨g, o, none⟩ u) := fun b h1 _ => Below.heap_setCell W ⟨g, o, none⟩ u b (by simp; omega)

/-! ### size -/

theorem new5 (w : World) (a b c d e : Value) (t : TypeId) : (w.alloc (.cells #[a, b, c, d, e] t)).cell? ⟨w.heap.size, 0, none⟩ = some a ∧ (w.alloc (.cells #[a, b, c, d, e] t)).cell? ⟨w.heap.size, 1, none⟩ = some b ∧ (w.alloc (.cells #[a, b, c, d, e] t)).cell? ⟨w.heap.size, 2, none⟩ = some c ∧
    (w.alloc (.cells #[a, b, c, d, e] t)).cell? ⟨w.heap.size, 3, none⟩ = some d ∧ (w.alloc (.cells #[a, b, c, d, e] t)).cell? ⟨w.heap.size, 4, none⟩ = some e := by
  have e1 := (MapKept.heap_alloc w (.cells #[a, b, c, d, e] t)).1
  simp only [World.cell?]
  rw [e1]; simp
/-- a boxed expression, behind a call that kept what there was -/
theorem box5 (w w1 : World) (a b c d e : Value) (t : TypeId) (hb : Below (w.alloc (.cells #[a, b, c, d, e] t)).heap.size (w.alloc (.cells #[a, b, c, d, e] t)) w1) :
    w1.cell? ⟨w.heap.size, 0, none⟩ = some a ∧ w1.cell? ⟨w.heap.size, 1, none⟩ = some b ∧ w1.cell? ⟨w.heap.size, 2, none⟩ = some c ∧ w1.cell? ⟨w.heap.size, 3, none⟩ = some d ∧ w1.cell? ⟨w.heap.size, 4, none⟩ = some e ∧ Below w.heap.size w w1 := by
  obtain ⟨n0, n1, n2, n3, n4⟩ := new5 w a b c d e t
  exact ⟨(hb.cell (p := ⟨w.heap.size, 0, none⟩) (by simp)).trans n0, (hb.cell (p := ⟨w.heap.size, 1, none⟩) (by simp)).trans n1, (hb.cell (p := ⟨w.heap.size, 2, none⟩) (by simp)).trans n2, (hb.cell (p := ⟨w.heap.size, 3, none⟩) (by simp)).trans n3, (hb.cell (p := ⟨w.heap.size, 4, none⟩) (by simp)).trans n4,
    ((Below.refl _ w).alloc (Nat.le_refl _) _).trans (hb.mono (by simp))⟩
theorem below_alloc (w : World) (o : Obj) : Below w.heap.size w (w.alloc o) := (Below.refl _ _).alloc (Nat.le_refl _) o

end Go.Proofs.Ytdpefmjlmpjjbaa.Rule
