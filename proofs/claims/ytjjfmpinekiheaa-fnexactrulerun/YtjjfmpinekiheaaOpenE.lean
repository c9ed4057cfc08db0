/-
  Arguments that came in, opened: expressions.
-/
import Derived.Test.YtjjfmpinekiheaaExprs
import Derived.Test.YtjjfmpinekiheaaOpenT
import Derived.Lib.SmallJoins
namespace Go.Proofs.Ytjjfmpinekiheaa.Rule
set_option linter.unusedVariables false
open Go.RowKit Go.Deep Go.ChangeShapes Go.WideShapes
open Tiers hiding lt_of_cell

theorem tl_of_tr {W : World} {v : Value} {l : List T} (h : TR W v l) : TL 0 W.heap.size W v l := by
  rcases h with h | ⟨b, o, cap, rfl, hb, hc⟩
  · exact .inl h
  · exact .inr ⟨b, o, cap, rfl, Nat.zero_le _, hb, hc⟩
theorem ES.deeper {lo hi : Nat} {W : World} : ∀ {d d' : Nat} {v : Value} {l : List Ex}, d ≤ d' → ES lo hi W d v l → ES lo hi W d' v l := by
  intro d
  induction d with
  | zero =>
    intro d' v l _ h
    cases d' with
    | zero => exact h
    | succ d' => exact .inl h
  | succ d ih =>
    intro d' v l hd h
    cases d' with
    | zero => omega
    | succ d' =>
      rcases h with h | ⟨b, o, cap, rfl, hl, h1, h2, hc⟩
      · exact .inl h
      · refine .inr ⟨b, o, cap, rfl, hl, h1, h2, fun i hi => ?_⟩
        obtain ⟨kv, tv, hcs, hz, hk, ht⟩ := hc i hi
        exact ⟨kv, tv, hcs, hz, ih (by omega) hk, ht⟩

section
variable {H : Type} {enc : TypeId × Value → H} {w : World} {base : Nat} {held : Bool}

theorem list5 {α : Type} {cs : List α} (h : cs.length = 5) : ∃ a b c d e, cs = [a, b, c, d, e] := by
  match cs, h with
  | [a, b, c, d, e], _ => exact ⟨a, b, c, d, e, rfl⟩

theorem openFields {fuel : Nat} {cs : List Value} {x : DataW H × List MemPlace} (h : DataW.trod enc Try.prog w base (fun _ => true) held fuel 47 cs = some x) :
    ∃ (k n : Int) (m : ByteArray) (kv tv : Value) (f : Nat), cs = [.int .i64 k, .int .i64 n, .string m, kv, tv] ∧ m.size ≤ maxLen ∧ f < fuel ∧ (∃ y, DataW.trod enc Try.prog w base (fun _ => true) held f 44 [kv] = some y) ∧ (∃ y, DataW.trod enc Try.prog w base (fun _ => true) held f 45 [tv] = some y) := by
  obtain ⟨xs, n, hn, _, hl, hxl, hf⟩ := DataW.trod_struct Try.underlying47 h
  have hl5 : cs.length = 5 := hl.trans (by kernel_rfl)
  obtain ⟨c0, c1, c2, c3, c4, rfl⟩ := list5 hl5
  obtain ⟨x0, x1, x2, x3, x4, rfl⟩ := list5 (by simpa using hxl)
  have k1 : Try.prog.cellsOf 3 = 1 := by kernel_rfl
  have k2 : Try.prog.cellsOf 9 = 1 := by kernel_rfl
  have k3 : Try.prog.cellsOf 44 = 1 := by kernel_rfl
  have k4 : Try.prog.cellsOf 45 = 1 := by kernel_rfl
  have h0 := hf 0 _ rfl
  have h1 := hf 1 _ rfl
  have h2 := hf 2 _ rfl
  have h3 := hf 3 _ rfl
  have h4 := hf 4 _ rfl
  simp [k1, k2, k3, k4] at h0 h1 h2 h3 h4
  obtain ⟨k, e0, _, _⟩ := DataW.trod_int Try.underlying3 h0
  obtain ⟨q, e1, _, _⟩ := DataW.trod_int Try.underlying3 h1
  obtain ⟨m, e2, _, hm⟩ := DataW.trod_string Try.underlying9 h2
  simp only [List.cons.injEq, and_true] at e0 e1 e2
  subst e0 e1 e2
  exact ⟨k, q, m, c3, c4, n, rfl, hm, by omega, ⟨_, h3⟩, ⟨_, h4⟩⟩

theorem openES : ∀ (fuel : Nat) {cs : List Value} {x : DataW H × List MemPlace}, DataW.trod enc Try.prog w base (fun _ => true) held fuel 44 cs = some x → ∃ v l d, cs = [v] ∧ ES 0 w.heap.size w d v l := by
  intro fuel
  induction fuel using Nat.strongRecOn with
  | ind fuel ih =>
    intro cs x h
    rcases DataW.trod_slice Try.underlying44 h with ⟨rfl, _⟩ | ⟨a, len, cap, elems, rest, n, hfu, rfl, _, hb, hl, hm, hlen, hel, _, _⟩
    · exact ⟨_, [], 0, rfl, rfl, _, _, rfl⟩
    have ce : Try.prog.cellsOf 47 = 5 := by kernel_rfl
    by_cases h0 : len = 0
    · subst h0
      exact ⟨_, [], 0, rfl, rfl, _, _, rfl⟩
    have each : ∀ i, i < len → ∃ q : Int × Int × ByteArray × Value × Value × List Ex × List T × Nat, (w.cell? (a.add (i * 5)) = some (.int .i64 q.1) ∧ w.cell? (a.add (i * 5 + 1)) = some (.int .i64 q.2.1) ∧ w.cell? (a.add (i * 5 + 2)) = some (.string q.2.2.1) ∧ w.cell? (a.add (i * 5 + 3)) = some q.2.2.2.1 ∧ w.cell? (a.add (i * 5 + 4)) = some q.2.2.2.2.1) ∧
        (q.2.2.1.size ≤ maxLen ∧ q.2.2.2.2.2.2.1.length ≤ maxLen) ∧ ES 0 w.heap.size w q.2.2.2.2.2.2.2 q.2.2.2.1 q.2.2.2.2.2.1 ∧ TL 0 w.heap.size w q.2.2.2.2.1 q.2.2.2.2.2.2.1 := by
      intro i hi
      have h1 := hel i hi
      rw [List.getElem?_eq_getElem (by omega), ce] at h1
      obtain ⟨cs', h2, h3⟩ := Option.bind_eq_some_iff.1 h1
      obtain ⟨k, q, m, kv, tv, f, rfl, hm', hf, ⟨y, hy⟩, ⟨z, hz⟩⟩ := openFields h3
      obtain ⟨_, _, hcell⟩ := World.cells?_some h2
      obtain ⟨v1, l1, d1, e1, hES⟩ := ih f (by omega) hy
      obtain ⟨v2, l2, e2, hTR, hl2⟩ := openTiers hz
      simp only [List.cons.injEq, and_true] at e1 e2
      subst e1 e2
      have g0 := hcell 0 (by omega)
      have g1 := hcell 1 (by omega)
      have g2 := hcell 2 (by omega)
      have g3 := hcell 3 (by omega)
      have g4 := hcell 4 (by omega)
      rw [add_add] at g0 g1 g2 g3 g4
      exact ⟨(k, q, m, kv, tv, l1, l2, d1), ⟨by simpa using g0, by simpa using g1, by simpa using g2, by simpa using g3, by simpa using g4⟩, ⟨hm', hl2⟩, hES, tl_of_tr hTR⟩
    obtain ⟨q, hq⟩ := choose_lt each
    obtain ⟨D, hD⟩ := fuel_lt (n := len) (q := fun i m => (q i).2.2.2.2.2.2.2 ≤ m) (fun i a b hab h => Nat.le_trans h hab) (fun i hi => ⟨_, Nat.le_refl _⟩)
    obtain ⟨b, off, spot⟩ := a
    have hspot : spot = none := by simpa [Addr.add] using World.cell?_spot (hq 0 (by omega)).1.1
    subst hspot
    have hlt : b < w.heap.size := lt_of_cell (v := .int .i64 (q 0).1) (by simpa [Addr.add] using (hq 0 (by omega)).1.1)
    refine ⟨_, (List.range len).map (fun i => Ex.mk (q i).1 (q i).2.1 (q i).2.2.1 (q i).2.2.2.2.2.1 (q i).2.2.2.2.2.2.1), D + 1, rfl, .inr ⟨b, off, cap, by simp, by simp; omega, Nat.zero_le _, hlt, fun i hi => ?_⟩⟩
    have hi' : i < len := by simpa using hi
    have e : ((List.range len).map (fun i => Ex.mk (q i).1 (q i).2.1 (q i).2.2.1 (q i).2.2.2.2.2.1 (q i).2.2.2.2.2.2.1)).getD i E0 = Ex.mk (q i).1 (q i).2.1 (q i).2.2.1 (q i).2.2.2.2.2.1 (q i).2.2.2.2.2.2.1 := by simp [List.getD, hi']
    rw [e]
    obtain ⟨⟨c0, c1, c2, c3, c4⟩, hz, hk, ht⟩ := hq i hi'
    rw [Addr.add_lit] at c0 c1 c2 c3 c4
    rw [← Nat.add_assoc] at c1 c2 c3 c4
    exact ⟨_, _, ⟨c0, c1, c2, c3, c4⟩, hz, hk.deeper (hD i hi'), ht⟩

set_option maxRecDepth 100000 in
/-- an expression that came in by value -/
theorem openExpr {r : Reach} {b0 : Nat} {v : Value} {dd : DataW H} {p : List MemPlace} (hv : Value.okWide Try.prog w r b0 47 v) (h : DataW.Trod enc Try.prog w base (fun _ => true) held 47 v dd p) :
    ∃ v' e d, v = v' ∧ EV 0 w.heap.size w d v' e := by
  obtain ⟨cs, rfl, hsz⟩ := okWide_struct Try.underlying47 hv
  obtain ⟨fuel, hf⟩ := h
  obtain ⟨k, q, m, kv, tv, f, hcs, hm, _, ⟨y, hy⟩, ⟨z, hz⟩⟩ := openFields hf
  obtain ⟨v1, l1, d1, e1, hES⟩ := openES f hy
  obtain ⟨v2, l2, e2, hTR, hl2⟩ := openTiers hz
  simp only [List.cons.injEq, and_true] at e1 e2
  subst e1 e2
  refine ⟨_, .mk k q m l1 l2, d1, rfl, kv, tv, ?_, ⟨hm, hl2⟩, hES, tl_of_tr hTR⟩
  have : cs = #[.int .i64 k, .int .i64 q, .string m, kv, tv] := by
    apply Array.toList_inj.1
    simpa [Value.cells] using hcs
  rw [this]; rfl
end
end Go.Proofs.Ytjjfmpinekiheaa.Rule
