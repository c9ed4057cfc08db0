/-
  A kid more: 'append(e.Kids, ..)' where the row has no room.
-/
import Derived.Test.YtdpefmjlmpjjbaaGen4
import Derived.ArgAppend
namespace Go.Proofs.Ytdpefmjlmpjjbaa.Draw
set_option linter.unusedVariables false
open Go.RowKit
open Rule (Ex EV ES TL Same wt wtL oth noE noL)

theorem ES.deeper {lo hi : Nat} {W : World} : ∀ {d : Nat} {v : Value} {l : List Ex}, ES lo hi W d v l → ES lo hi W (d + 1) v l := by
  intro d
  induction d with
  | zero => intro v l h; exact .inl h
  | succ d ih =>
    intro v l h
    rcases h with h | ⟨b, o, cap, rfl, hl, h1, h2, hc⟩
    · exact .inl h
    · refine .inr ⟨b, o, cap, rfl, hl, h1, h2, fun i hi => ?_⟩
      obtain ⟨kv, tv, hcs, hz, hk, ht⟩ := hc i hi
      exact ⟨kv, tv, hcs, hz, ih hk, ht⟩
/-- the kid that is added -/
abbrev leaf : Ex := .mk 1 0 ⟨#[]⟩ [] []
abbrev leafV : List Value := [.int .i64 1, .int .i64 0, .string ⟨#[]⟩, .slice none 0 0, .slice none 0 0]
theorem infoX : (Try.prog.info? 26).map (fun i => (i.zero, i.size, i.bytes)) = some (some (.agg #[.int .i64 0, .int .i64 0, .string ByteArray.empty, .slice none 0 0, .slice none 0 0]), 5, 80) := by kernel_rfl

theorem PE.app {w W2 w' : World} {lo h d n g' cap' : Nat} {a : Option Addr} {c : Nat} {ks : List Ex} (hlo : w.heap.size + 1 ≤ lo) (hk : ES lo W2.heap.size W2 d (.slice a n c) ks) (hh : h = W2.heap.size) (ha : Ag w W2 w' h)
    (hg : w.heap.size + 1 ≤ g' ∧ g' ≠ h ∧ g' < w'.heap.size) (hn : ks.length = n) (hn' : n ≤ 2000) (hold : ∀ g, a = some ⟨g, 0, none⟩ → ∀ j, j < n * 5 → w'.cell? ⟨g', j, none⟩ = w'.cell? ⟨g, j, none⟩) (ho : n ≠ 0 → ∃ g, a = some ⟨g, 0, none⟩)
    (hnew : ∀ j u, leafV[j]? = some u → w'.cell? ⟨g', n * 5 + j, none⟩ = some u) : PE w w' h (d + 1) (.slice (some ⟨g', 0, none⟩) (n + 1) cap') (ks ++ [leaf]) := by
  subst hh
  intro W' hW
  have hA := ha.trans hW
  have hES : ES lo W'.heap.size W' d (.slice a n c) ks := (hk.kept (fun j h1 h2 => hA.2 j (by omega) (by omega) h2)).mono (Nat.le_refl _) hA.1
  have hblk : W'.heap[g']? = w'.heap[g']? := hW.2 g' hg.1 hg.2.1 hg.2.2
  have key : ∀ o : Nat, W'.cell? ⟨g', o, none⟩ = w'.cell? ⟨g', o, none⟩ := fun o => World.cell?_of_block hblk
  refine .inr ⟨g', 0, cap', by simp [hn], by simp; unfold maxLen; omega, hg.1, Nat.lt_of_lt_of_le hg.2.2 hW.1, fun i hi => ?_⟩
  by_cases hin : i < n
  · obtain ⟨g, rfl⟩ := ho (by omega)
    have hgd : (ks ++ [leaf]).getD i Rule.E0 = ks.getD i Rule.E0 := by simp [List.getD, List.getElem?_append_left (by omega : i < ks.length)]
    rw [hgd]
    cases d with
    | zero => obtain ⟨rfl, _⟩ := hES; simp at hn; omega
    | succ d =>
      rcases hk with ⟨rfl, _⟩ | ⟨b0, o0, cap0, hv0, _, hb0, hb1, _⟩
      · simp at hn; omega
      rcases hES with ⟨rfl, _⟩ | ⟨b, o, cap, hv, hl, h1, h2, hc⟩
      · simp at hn; omega
      · simp only [Value.slice.injEq, Option.some.injEq, Addr.mk.injEq, and_true] at hv hv0
        obtain ⟨⟨rfl, rfl⟩, rfl, rfl⟩ := hv
        obtain ⟨⟨rfl, _⟩, _, _⟩ := hv0
        have hbg : W'.heap[g]? = w'.heap[g]? := hW.2 g (by omega) (by omega) (Nat.lt_of_lt_of_le hb1 ha.1)
        have keyg : ∀ o : Nat, W'.cell? ⟨g, o, none⟩ = w'.cell? ⟨g, o, none⟩ := fun o => World.cell?_of_block hbg
        have both : ∀ j, j < ks.length * 5 → W'.cell? ⟨g', 0 + j, none⟩ = W'.cell? ⟨g, 0 + j, none⟩ := fun j hj => by rw [Nat.zero_add, key, hold g rfl j hj, keyg]
        obtain ⟨kv, tv, ⟨c0, c1, c2, c3, c4⟩, hz, hs, ht⟩ := hc i (by omega)
        have b0 := both (i * 5) (by omega)
        have b1 := both (i * 5 + 1) (by omega)
        have b2 := both (i * 5 + 2) (by omega)
        have b3 := both (i * 5 + 3) (by omega)
        have b4 := both (i * 5 + 4) (by omega)
        simp only [← Nat.add_assoc] at b1 b2 b3 b4
        exact ⟨kv, tv, ⟨b0.trans c0, b1.trans c1, b2.trans c2, b3.trans c3, b4.trans c4⟩, hz, (ES.deeper hs).mono hlo (Nat.le_refl _), ht.mono hlo (Nat.le_refl _)⟩
  · have hi' : i = n := by simp at hi; omega
    subst hi'
    have hgd : (ks ++ [leaf]).getD i Rule.E0 = leaf := by simp [List.getD, ← hn]
    rw [hgd]
    refine ⟨.slice none 0 0, .slice none 0 0, ?_, ⟨by decide, by decide⟩, ES.nought _ _ _ _ _ _, TL.nought _ _ _ _ _⟩
    simp only [Nat.zero_add, key]
    exact ⟨hnew 0 _ rfl, hnew 1 _ rfl, hnew 2 _ rfl, hnew 3 _ rfl, hnew 4 _ rfl⟩

theorem cells_some {lo hi : Nat} {W : World} {d g n c : Nat} {ks : List Ex} (h : ES lo hi W d (.slice (some ⟨g, 0, none⟩) n c) ks) (hn : ks.length = n) : ∀ j, j < n * 5 → ∃ u, W.cell? ⟨g, j, none⟩ = some u := by
  intro j hj
  cases d with
  | zero => obtain ⟨rfl, _⟩ := h; simp at hn; omega
  | succ d =>
    rcases h with ⟨rfl, _⟩ | ⟨b, o, cap, hv, _, _, _, hc⟩
    · simp at hn; omega
    · simp only [Value.slice.injEq, Option.some.injEq, Addr.mk.injEq, and_true] at hv
      obtain ⟨⟨rfl, rfl⟩, rfl, rfl⟩ := hv
      obtain ⟨kv, tv, ⟨c0, c1, c2, c3, c4⟩, _⟩ := hc (j / 5) (by omega)
      simp only [Nat.zero_add] at c0 c1 c2 c3 c4
      rcases (by omega : j % 5 = 0 ∨ j % 5 = 1 ∨ j % 5 = 2 ∨ j % 5 = 3 ∨ j % 5 = 4) with e | e | e | e | e
      · have ej : j / 5 * 5 = j := by omega
        rw [ej] at c0
        exact ⟨_, c0⟩
      · have ej : j / 5 * 5 + 1 = j := by omega
        rw [ej] at c1
        exact ⟨_, c1⟩
      · have ej : j / 5 * 5 + 2 = j := by omega
        rw [ej] at c2
        exact ⟨_, c2⟩
      · have ej : j / 5 * 5 + 3 = j := by omega
        rw [ej] at c3
        exact ⟨_, c3⟩
      · have ej : j / 5 * 5 + 4 = j := by omega
        rw [ej] at c4
        exact ⟨_, c4⟩

/-- the append itself -/
theorem run_appK (W : World) (ty : TypeId) (a : Option Addr) (n c : Nat) (hn : n ≤ 2000) (hkf : KF (.slice a n c)) (hc : ∀ g, a = some ⟨g, 0, none⟩ → ∀ j, j < n * 5 → ∃ u, W.cell? ⟨g, j, none⟩ = some u) :
    ∃ g' cap' w', (Builtin.append_ #[23, 23] ty #[.slice a n c, .slice (some ⟨W.heap.size, 0, none⟩) 1 1]).run Try.prog (W.alloc (.cells leafV.toArray 26)) = .ok (.slice (some ⟨g', 0, none⟩) (n + 1) cap') w' ∧
      (W.alloc (.cells leafV.toArray 26)).grownBy w' none ∧ W.heap.size < g' ∧ g' < w'.heap.size ∧ (∀ g, a = some ⟨g, 0, none⟩ → ∀ j, j < n * 5 → w'.cell? ⟨g', j, none⟩ = W.cell? ⟨g, j, none⟩) ∧ (∀ j u, leafV[j]? = some u → w'.cell? ⟨g', n * 5 + j, none⟩ = some u) := by
  obtain ⟨i, hi, h2⟩ := Option.map_eq_some_iff.1 infoX
  simp only [Prod.mk.injEq] at h2
  obtain ⟨hz, hs, hb⟩ := h2
  have hnews : ∀ j u, leafV[j]? = some u → (W.alloc (.cells leafV.toArray 26)).cell? ((⟨W.heap.size, 0, none⟩ : Addr).add j) = some u := fun j u hj => by
    rw [Addr.add_lit, Nat.zero_add, cell_new]; simpa using hj
  rcases hkf with h | ⟨g, nn, h⟩
  · simp only [Value.slice.injEq] at h
    obtain ⟨rfl, rfl, rfl⟩ := h
    obtain ⟨g', cap', w', hr, ho, hg, hat, hlt⟩ := run_append_lies (P := Try.prog) (W.alloc (.cells leafV.toArray 26)) 23 ty 0 26 i _ 5 80 Try.underlying23 hi hz hs hb rfl (by omega) (.slice none 0 0) 0 [] ⟨rfl, .inl ⟨rfl, rfl⟩⟩ ⟨W.heap.size, 0, none⟩ 1 1 leafV rfl hnews (by simp [Value.oneCell']) (by omega) (by unfold maxLen; omega) (by omega) (Nat.zero_le _) _ rfl
    refine ⟨g', cap', w', hr, hg, ?_, hlt, fun g hg => by simp at hg, fun j u hj => ?_⟩
    · rcases hat with h | h
      · simp [Value.ownBlock] at h
      · simp at h; omega
    · have := ho.cells (g := g') rfl j u (by simpa using hj)
      rw [Addr.add_lit, Nat.zero_add] at this
      rw [Nat.zero_mul, Nat.zero_add]
      exact this
  · simp only [Value.slice.injEq] at h
    obtain ⟨rfl, hnn, hcc⟩ := h
    have hnc : n = c := hnn.trans hcc.symm
    subst hnc
    clear hnn hcc
    have hW : ∀ j, j < n * 5 → (W.alloc (.cells leafV.toArray 26)).cell? ⟨g, j, none⟩ = W.cell? ⟨g, j, none⟩ := fun j hj => by
      obtain ⟨u, hu⟩ := hc g rfl j hj
      rw [hu]
      exact cell_alloc _ hu (Rule.lt_of_cell hu)
    have hlo : ((List.range (n * 5)).map fun j => (W.cell? ⟨g, j, none⟩).getD undef).length = n * 5 := by simp
    obtain ⟨v', w', hr, ho, hg⟩ := run_append_arg_grows (P := Try.prog) (W.alloc (.cells leafV.toArray 26)) 23 ty 26 i _ 5 80 Try.underlying23 hi hz hs hb rfl (by omega) ⟨g, 0, none⟩ n n ((List.range (n * 5)).map fun j => (W.cell? ⟨g, j, none⟩).getD undef) hlo (fun j u hj => by
      have hjl : j < n * 5 := by have := (List.getElem?_eq_some_iff.1 hj).1; simpa using this
      rw [Addr.add_lit, Nat.zero_add, hW j hjl]
      obtain ⟨u', hu'⟩ := hc g rfl j hjl
      simp [hjl, hu'] at hj
      rw [hu', hj]) ⟨W.heap.size, 0, none⟩ 1 1 leafV rfl hnews (by omega) (by unfold maxLen; omega) (by omega)
    rcases ho.2 with ⟨_, h0⟩ | ⟨g', cap', cur, rfl, hb', hcur, _⟩
    · omega
    refine ⟨g', cap', w', hr, hg, by simp at hb'; omega, (ho.lt g' rfl).2, fun g2 hg2 j hj => ?_, fun j u hj => ?_⟩
    · simp only [Option.some.injEq, Addr.mk.injEq, and_true] at hg2
      subst hg2
      obtain ⟨u', hu'⟩ := hc g rfl j hj
      have := ho.cells (g := g') rfl j u' (by rw [List.getElem?_append_left (by rw [hlo]; exact hj)]; simp [hj, hu'])
      rw [Addr.add_lit, Nat.zero_add] at this
      rw [this, hu']
    · have := ho.cells (g := g') rfl (n * 5 + j) u (by rw [List.getElem?_append_right (by rw [hlo]; omega), hlo]; simpa using hj)
      rw [Addr.add_lit, Nat.zero_add] at this
      exact this
theorem wtL_app (a b : List Ex) : wtL (a ++ b) = wtL a + wtL b := by
  rw [Rule.wtL_eq, Rule.wtL_eq, Rule.wtL_eq, Rule.wtS_append, List.length_append]; omega
theorem wtL_len (l : List Ex) : l.length ≤ wtL l := by rw [Rule.wtL_eq]; omega
theorem wtL_leaf : wtL [leaf] = 1 := by simp [wtL, wt, ByteArray.size]
theorem KF.some {a : Option Addr} {n c : Nat} (h : KF (.slice a n c)) (hn : n ≠ 0) : ∃ g, a = some ⟨g, 0, none⟩ := by
  rcases h with h | ⟨g, k, h⟩
  · simp only [Value.slice.injEq] at h; omega
  · simp only [Value.slice.injEq] at h; exact ⟨g, h.1⟩
/-- an append whose run is known -/
theorem wpList_run {w w' : World} {ops : Array Oper} {rest : List Oper} {o : Oper} {a : Act} {Q : Exit → Act → World → Prop} (hgd : o.guard = none) (s x : Operand) (t : TypeId)
    (ho : o.op = .call { callee := .builtin .append, args := #[s, x], argTypes := #[t, t] }) (sv xv v : Value) (hs : a.eval s = sv) (hx : a.eval x = xv) (hr : (Builtin.append_ #[t, t] o.type #[sv, xv]).run Try.prog w = .ok v w')
    (h : wpList Try.prog ops Q rest (a.put o.dst v) w') : wpList Try.prog ops Q (o :: rest) a w := by
  refine wpList_plain hgd fun K' hK' => ?_
  unfold Oper.wp execOp
  simp [ho, resolve, invoke, builtin, hs, hx, hr, Result.andThen]
  exact hK' _ _ h
end Go.Proofs.Ytdpefmjlmpjjbaa.Draw
