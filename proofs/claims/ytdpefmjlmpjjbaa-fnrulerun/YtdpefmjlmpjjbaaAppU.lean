/-
  'append(out, list...)' on a slice of uses of the call's own.
-/
import Derived.Test.YtdpefmjlmpjjbaaUses
import Derived.Deep.AppendLies
import Derived.Deep.AppendSrc
import Derived.Deep.RegionHeldLaw
import Derived.OwnWalk
namespace Go.Proofs.Ytdpefmjlmpjjbaa.Sums
set_option linter.unusedVariables false
open Go.RowKit
open Uses (U U0 UR UC UOwn hide unhide infoU)

/-- three values each -/
abbrev flat2 (l : List U) : List Value := l.flatMap fun x => [.string x.1, .int .i64 x.2]
theorem flat2_len : ∀ l : List U, (flat2 l).length = l.length * 2
  | [] => rfl
  | x :: xs => by
    have := flat2_len xs
    simp only [flat2, List.flatMap_cons, List.length_append, List.length_cons, List.length_nil] at this ⊢
    omega
theorem flat2_get : ∀ (l : List U) (i : Nat) (x : U), l[i]? = some x → (flat2 l)[i * 2]? = some (.string x.1) ∧ (flat2 l)[i * 2 + 1]? = some (.int .i64 x.2)
  | [], i, x, h => by simp at h
  | y :: ys, 0, x, h => by
    simp only [List.getElem?_cons_zero, Option.some.injEq] at h
    subst h
    simp [flat2]
  | y :: ys, i + 1, x, h => by
    have := flat2_get ys i x (by simpa using h)
    have e1 : (i + 1) * 2 = i * 2 + 1 + 1 := by omega
    rw [e1]
    simp only [flat2, List.flatMap_cons, List.cons_append, List.nil_append, List.getElem?_cons_succ]
    exact this
theorem flat2_one (l : List U) : ∀ u ∈ flat2 l, u.oneCell' = true := by
  intro u hu
  obtain ⟨x, _, hx⟩ := List.mem_flatMap.1 hu
  simp only [List.mem_cons, List.not_mem_nil, or_false] at hx
  rcases hx with rfl | rfl <;> rfl
theorem flat2_at {l : List U} {j : Nat} {u : Value} (h : (flat2 l)[j]? = some u) : j / 2 < l.length ∧ u = (if j % 2 = 0 then .string (l.getD (j / 2) U0).1 else .int .i64 (l.getD (j / 2) U0).2) := by
  have hj : j < (flat2 l).length := (List.getElem?_eq_some_iff.1 h).1
  rw [flat2_len] at hj
  have hlt : j / 2 < l.length := by omega
  refine ⟨hlt, ?_⟩
  have hx : l[j / 2]? = some (l.getD (j / 2) U0) := by rw [List.getElem?_eq_getElem hlt]; simp [List.getD, hlt]
  obtain ⟨h0, h1⟩ := flat2_get l (j / 2) _ hx
  rcases (by omega : j % 2 = 0 ∨ j % 2 = 1) with e | e
  · have ej : j = j / 2 * 2 := by omega
    rw [ej, h0] at h
    rw [if_pos e]
    exact (Option.some.inj h).symm
  · have ej : j = j / 2 * 2 + 1 := by omega
    rw [ej, h1] at h
    rw [if_neg (by omega)]
    exact (Option.some.inj h).symm

/-- the slice of the call's own in block b, not below B, holds l -/
def XU (W : World) (B b c : Nat) (l : List U) : Prop := W.ownsRow B 34 2 (.slice (some ⟨b, 0, none⟩) l.length c) l.length (flat2 l)

theorem XU.own {W : World} {B b c : Nat} {l : List U} (h : XU W B b c l) : B ≤ b ∧ UOwn W b l := by
  obtain ⟨_, h2⟩ := h
  rcases h2 with ⟨h2, _⟩ | ⟨g, cap, cur, hv, hb, hg, _, _, hc3, hc4⟩
  · simp at h2
  · simp only [Value.slice.injEq, Option.some.injEq, Addr.mk.injEq, and_true, true_and] at hv
    obtain ⟨rfl, rfl⟩ := hv
    refine ⟨hb, ⟨?_, fun i hi => ?_⟩, fun j => ?_⟩
    · refine Nat.lt_of_not_le fun hle => ?_
      rw [Array.getElem?_eq_none hle] at hg; simp at hg
    · have hx : l[i]? = some (l.getD i U0) := by rw [List.getElem?_eq_getElem hi]; simp [List.getD, hi]
      obtain ⟨h0, h1⟩ := flat2_get l i _ hx
      rw [← hc4, List.getElem?_take_of_lt (by omega)] at h0 h1
      simp only [World.cell?, hg]
      refine ⟨?_, ?_⟩
      · simpa using h0
      · simpa using h1
    · simp only [World.frozen?, hg]; simp
theorem XU.cap {W : World} {B b c : Nat} {l : List U} (h : XU W B b c l) : l.length ≤ c := by
  rcases h.2 with ⟨h3, _⟩ | ⟨g, cap, cur, hv, _, _, h3, _⟩
  · simp at h3
  · simp only [Value.slice.injEq, Option.some.injEq, Addr.mk.injEq, and_true, true_and] at hv
    omega
theorem XU.ur {W : World} {B b c : Nat} {l : List U} (h : XU W B b c l) : UR W (.slice (some ⟨b, 0, none⟩) l.length c) l := .inr ⟨b, 0, c, rfl, h.own.2.1⟩
theorem XU.kept {W W' : World} {B b c : Nat} {l : List U} {r : Option Nat} (h : XU W B b c l) (hg : W.grownBy W' r) (hne : some b ≠ r) : XU W' B b c l :=
  World.ownsRow.kept h hg (.inr (by simpa [Value.ownBlock] using hne))
theorem XU.made (w : World) (B : Nat) (hB : B ≤ w.heap.size) (t : TypeId) (ht : t = 34) : XU (w.alloc (.cells #[] t)) B w.heap.size 0 [] := by
  subst ht
  refine ⟨rfl, .inr ⟨w.heap.size, 0, #[], rfl, hB, (MapKept.heap_alloc w _).1, by simp, by simp, by simp, by simp⟩⟩

theorem src_of {w : World} {xv : Value} {l2 : List U} (hx : UR w xv l2) (i : TypeInfo) (hs : i.size = 2) : Src Try.prog i.size 27 xv l2.length (flat2 l2) w := by
  rw [hs]
  rcases hx with ⟨rfl, a, c, rfl⟩ | ⟨b2, o2, cap2, rfl, hc⟩
  · cases a with
    | none => exact Src.ofNil w Try.underlying27 c
    | some ad => exact Src.ofSlice w Try.underlying27 ad 0 c [] rfl (fun j u hj => by simp at hj) (fun u hu => by simp at hu)
  · refine Src.ofSlice w Try.underlying27 ⟨b2, o2, none⟩ l2.length cap2 (flat2 l2) (flat2_len l2) (fun j u hj => ?_) (flat2_one l2)
    obtain ⟨hlt, rfl⟩ := flat2_at hj
    obtain ⟨c0, c1⟩ := hc.2 (j / 2) hlt
    rw [Addr.add_lit]
    rcases (by omega : j % 2 = 0 ∨ j % 2 = 1) with e | e
    · rw [if_pos e]
      have ej : o2 + j = o2 + j / 2 * 2 := by omega
      rw [ej]; exact c0
    · rw [if_neg (by omega)]
      have ej : o2 + j = o2 + j / 2 * 2 + 1 := by omega
      rw [ej]; exact c1

theorem run_appU (w : World) (ty : TypeId) (B b c n : Nat) (l l2 : List U) (xv : Value) (hn : l.length = n) (hown : XU w B b c l) (hx : UR w xv l2) (hl : l.length + l2.length ≤ 3000000) (hB : B ≤ w.heap.size) :
    ∃ b' c' w', (Builtin.append_ #[27, 27] ty #[.slice (some ⟨b, 0, none⟩) n c, xv]).run Try.prog w = .ok (.slice (some ⟨b', 0, none⟩) (n + l2.length) c') w' ∧ XU w' B b' c' (l ++ l2) ∧ w.grownBy w' (some b) ∧ (b = b' ∨ b' = w.heap.size) ∧ b' < w'.heap.size := by
  subst hn
  obtain ⟨i, hi, h2⟩ := Option.map_eq_some_iff.1 infoU
  simp only [Prod.mk.injEq] at h2
  obtain ⟨hz, hs, hb⟩ := h2
  by_cases h0 : l2 = []
  · subst h0
    have hsrc := src_of hx i hs
    obtain ⟨hB', hE⟩ := hown.own
    have hcap : l.length ≤ c := by
      rcases hown.2 with ⟨h3, _⟩ | ⟨g, cap, cur, hv, _, _, h3, _⟩
      · simp at h3
      · simp only [Value.slice.injEq, Option.some.injEq, Addr.mk.injEq, and_true, true_and] at hv
        omega
    have := run_append_room_src (P := Try.prog) w 27 27 ty 34 i Try.underlying27 hi b 0 l.length c xv 0 [] hsrc (by omega) (fun j hj => by simp at hj) (fun j hj => by simp at hj)
    refine ⟨b, c, w, this, by rw [List.append_nil]; exact hown, World.grownBy.refl _ _, .inl rfl, hE.1.1⟩
  · rcases hx with ⟨h0', _⟩ | ⟨b2, o2, cap2, rfl, hc⟩
    · exact absurd h0' h0
    have hpos : 0 < l2.length := List.length_pos_iff.2 h0
    have hUR : UR w (.slice (some ⟨b2, o2, none⟩) l2.length cap2) l2 := .inr ⟨b2, o2, cap2, rfl, hc⟩
    have hnews : ∀ j u, (flat2 l2)[j]? = some u → w.cell? ((⟨b2, o2, none⟩ : Addr).add j) = some u := fun j u hj => by
      obtain ⟨hlt, rfl⟩ := flat2_at hj
      obtain ⟨c0, c1⟩ := hc.2 (j / 2) hlt
      rw [Addr.add_lit]
      rcases (by omega : j % 2 = 0 ∨ j % 2 = 1) with e | e
      · rw [if_pos e]
        have ej : o2 + j = o2 + j / 2 * 2 := by omega
        rw [ej]; exact c0
      · rw [if_neg (by omega)]
        have ej : o2 + j = o2 + j / 2 * 2 + 1 := by omega
        rw [ej]; exact c1
    obtain ⟨g, cap, w', hr, g2, g3, g4, g5⟩ := run_append_lies (P := Try.prog) w 27 ty B 34 i _ 2 24 Try.underlying27 hi hz hs hb rfl (by omega) _ l.length (flat2 l) hown ⟨b2, o2, none⟩ l2.length cap2 (flat2 l2) (flat2_len l2) hnews (flat2_one l2) hpos (by unfold maxLen; omega) (by omega) hB _ rfl
    refine ⟨g, cap, w', hr, ?_, g3, ?_, g5⟩
    · unfold XU
      rw [List.length_append, flat2, List.flatMap_append]
      exact g2
    · rcases g4 with g4 | g4
      · exact .inl (by simpa [Value.ownBlock] using g4)
      · exact .inr g4

/-- the first k of them, in the same block -/
theorem XU.take {W : World} {B b c : Nat} {l : List U} (h : XU W B b c l) (k : Nat) (hk : k ≤ l.length) : XU W B b c (l.take k) := by
  have hlen : (l.take k).length = k := by rw [List.length_take]; omega
  obtain ⟨_, h2⟩ := h
  rcases h2 with ⟨h2, _⟩ | ⟨g, cap, cur, hv, hb, hg, hc1, hc2, hc3, hc4⟩
  · simp at h2
  · simp only [Value.slice.injEq, Option.some.injEq, Addr.mk.injEq, and_true, true_and] at hv
    obtain ⟨rfl, rfl⟩ := hv
    refine ⟨by rw [flat2_len], .inr ⟨b, c, cur, by rw [hlen], hb, hg, by omega, hc2, hc3, ?_⟩⟩
    rw [hlen]
    have e1 : flat2 l = flat2 (l.take k) ++ flat2 (l.drop k) := by
      unfold flat2
      rw [← List.flatMap_append, List.take_append_drop]
    rw [e1] at hc4
    have e2 : (cur.toList.take (l.length * 2)).take (k * 2) = (flat2 (l.take k) ++ flat2 (l.drop k)).take (k * 2) := by rw [hc4]
    rw [List.take_take, Nat.min_eq_left (by omega)] at e2
    rw [e2]
    have e3 : (flat2 (l.take k)).length = k * 2 := by rw [flat2_len, hlen]
    rw [List.take_append_of_le_length (by omega), ← e3, List.take_length]
theorem XU.mono {W : World} {B B' b c : Nat} {l : List U} (h : XU W B b c l) (hb : B' ≤ B) : XU W B' b c l := by
  obtain ⟨h1, h2⟩ := h
  refine ⟨h1, ?_⟩
  rcases h2 with h2 | ⟨g, cap, cur, hv, hb', r⟩
  · exact .inl h2
  · exact .inr ⟨g, cap, cur, hv, by omega, r⟩
/-- another number at one of them -/
theorem XU.setQ {W : World} {B b c : Nat} {l : List U} (h : XU W B b c l) {k : Nat} (hk : k < l.length) (q : Int) : XU (W.setCell ⟨b, k * 2 + 1, none⟩ (.int .i64 q)) B b c (l.set k ((l.getD k U0).1, q)) := by
  have hlen : (l.set k ((l.getD k U0).1, q)).length = l.length := by rw [List.length_set]
  obtain ⟨h1, h2⟩ := h
  rcases h2 with ⟨h2, _⟩ | ⟨g, cap, cur, hv, hb, hg, hc1, hc2, hc3, hc4⟩
  · simp at h2
  · simp only [Value.slice.injEq, Option.some.injEq, Addr.mk.injEq, and_true, true_and] at hv
    obtain ⟨rfl, rfl⟩ := hv
    have hbs : b < W.heap.size := by
      refine Nat.lt_of_not_le fun hle => ?_
      rw [Array.getElem?_eq_none hle] at hg; simp at hg
    refine ⟨by rw [flat2_len], .inr ⟨b, c, cur.set! (k * 2 + 1) (.int .i64 q), by rw [hlen], hb, ?_, by omega, hc2, by simpa using hc3, ?_⟩⟩
    · simp only [World.setCell, Array.getElem?_modify, hg, Option.map_some]
      simp
    · rw [hlen]
      refine List.ext_getElem? fun j => ?_
      by_cases hj : j < l.length * 2
      · rw [List.getElem?_take_of_lt hj]
        have hfl : (flat2 (l.set k ((l.getD k U0).1, q))).length = l.length * 2 := by rw [flat2_len, hlen]
        have h3 : ∃ u, (flat2 (l.set k ((l.getD k U0).1, q)))[j]? = some u := ⟨_, List.getElem?_eq_getElem (by omega)⟩
        obtain ⟨u, hu⟩ := h3
        have h4 : ∃ u, (flat2 l)[j]? = some u := ⟨_, List.getElem?_eq_getElem (by rw [flat2_len]; omega)⟩
        obtain ⟨u', hu'⟩ := h4
        obtain ⟨_, e1⟩ := flat2_at hu
        obtain ⟨_, e2⟩ := flat2_at hu'
        have hcj : cur.toList[j]? = some u' := by rw [← hu', ← hc4, List.getElem?_take_of_lt hj]
        rw [hu]
        simp only [Array.set!, Array.toList_setIfInBounds]
        by_cases ej : j = k * 2 + 1
        · subst ej
          rw [List.getElem?_set_self (by rw [Array.length_toList]; omega)]
          have d1 : (k * 2 + 1) % 2 = 1 := by omega
          have d2 : (k * 2 + 1) / 2 = k := by omega
          rw [d1, d2, if_neg (by omega)] at e1
          rw [e1]
          simp [List.getD, hk]
        · rw [List.getElem?_set_ne (by omega), hcj, e1, e2]
          by_cases e3 : j / 2 = k
          · have e4 : j % 2 = 0 := by omega
            rw [if_pos e4, if_pos e4, e3]
            simp [List.getD, hk]
          · have : (l.set k ((l.getD k U0).1, q)).getD (j / 2) U0 = l.getD (j / 2) U0 := by
              simp only [List.getD]
              rw [List.getElem?_set_ne (by omega)]
            rw [this]
      · rw [List.getElem?_eq_none (by rw [List.length_take]; omega), List.getElem?_eq_none (by rw [flat2_len, hlen]; omega)]

section
variable {ops : Array Oper} {o : Oper} {a : Act} {K : Act → World → Prop} {Q : Exit → Act → World → Prop} {P0 : Prop}
theorem wp_appU (w : World) (s x : Operand) (ho : o.op = .call { callee := .builtin .append, args := #[s, x], argTypes := #[27, 27] })
    (B b c n : Nat) (l l2 : List U) (xv : Value) (hn : l.length = n) (hs : a.eval s = .slice (some ⟨b, 0, none⟩) n c) (hown : XU w B b c l) (hxv : a.eval x = xv) (hx : UR w xv l2) (hl : l.length + l2.length ≤ 3000000) (hB : B ≤ w.heap.size)
    (h : ∀ b' c' w', XU w' B b' c' (l ++ l2) → w.grownBy w' (some b) → (b = b' ∨ b' = w.heap.size) → b' < w'.heap.size → K (a.put o.dst (.slice (some ⟨b', 0, none⟩) (n + l2.length) c')) w') : o.wp Try.prog a w K Q := by
  obtain ⟨b', c', w', hr, h2, h3, h4, h5⟩ := run_appU w o.type B b c n l l2 xv hn hown hx hl hB
  unfold Oper.wp execOp
  simp only [ho, resolve, invoke, builtin, Sem.run_bind, Sem.run_pure, Result.andThen_ok, List.map_toArray, List.map_cons, List.map_nil, hs, hxv, hr]
  exact h b' c' w' h2 h3 h4 h5
theorem listAppU (w : World) {rest : List Oper} (hgd : o.guard = none) (s x : Operand) (ho : o.op = .call { callee := .builtin .append, args := #[s, x], argTypes := #[27, 27] })
    (B b c n : Nat) (l l2 : List U) (xv : Value) (hn : l.length = n) (hs : a.eval s = .slice (some ⟨b, 0, none⟩) n c) (hown : XU w B b c l) (hxv : a.eval x = xv) (hx : UR w xv l2) (hl : l.length + l2.length ≤ 3000000) (hB : B ≤ w.heap.size)
    (h : ∀ b' c' w', XU w' B b' c' (l ++ l2) → w.grownBy w' (some b) → (b = b' ∨ b' = w.heap.size) → b' < w'.heap.size → wpList Try.prog ops Q rest (a.put o.dst (.slice (some ⟨b', 0, none⟩) (n + l2.length) c')) w') :
    wpList Try.prog ops Q (o :: rest) a w :=
  wpList_plain hgd fun _ hK => wp_appU w s x ho B b c n l l2 xv hn hs hown hxv hx hl hB fun b' c' w' h2 h3 h4 h5 => hK _ _ (h b' c' w' h2 h3 h4 h5)
theorem stepAppU (w : World) (hgd : o.guard = none) (s x : Operand) (ho : o.op = .call { callee := .builtin .append, args := #[s, x], argTypes := #[27, 27] })
    (B b c n : Nat) (l l2 : List U) (xv : Value) (hn : l.length = n) (hs : a.eval s = .slice (some ⟨b, 0, none⟩) n c) (hown : XU w B b c l) (hxv : a.eval x = xv) (hx : UR w xv l2) (hl : l.length + l2.length ≤ 3000000) (hB : B ≤ w.heap.size)
    (h : ∀ b' c' w', XU w' B b' c' (l ++ l2) → w.grownBy w' (some b) → (b = b' ∨ b' = w.heap.size) → b' < w'.heap.size → K (a.put o.dst (.slice (some ⟨b', 0, none⟩) (n + l2.length) c')) w') :
    if Region.wanted o (yielded ops a.tmps) = true then Oper.wp Try.prog o a w K Q else P0 := by
  have hw : Region.wanted o (yielded ops a.tmps) = true := by simp [Region.wanted, hgd]
  rw [if_pos hw]
  exact wp_appU w s x ho B b c n l l2 xv hn hs hown hxv hx hl hB h
end
end Go.Proofs.Ytdpefmjlmpjjbaa.Sums
