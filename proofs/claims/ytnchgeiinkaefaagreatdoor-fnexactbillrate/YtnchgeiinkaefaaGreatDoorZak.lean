/-
  Texts of this proof laid together, in build order; each says of itself what it holds.
-/
import Derived.Test.YtnchgeiinkaefaaGreatDoorZae
import Derived.Deep.AppendLies
import Derived.Deep.AppendSrc
import Derived.Deep.RegionHeldLaw
import Derived.OwnWalk
import Derived.Test.YtnchgeiinkaefaaGreatDoorZad
import Derived.Test.YtnchgeiinkaefaaGreatDoorZab
import Derived.Test.YtnchgeiinkaefaaGreatDoorZac
import Derived.Sort.Walk0
import Derived.Test.YtnchgeiinkaefaaGreatDoorZaa
import Derived.Maps.OwnOps
import Derived.Test.YtnchgeiinkaefaaGreatDoorZag
import Derived.Lib.ItoaNum
import Derived.Lib.ItoaMem
import Derived.Lib.AtoiTie
import Derived.Lib.AtoiAllCases
section
/-
  'append(out, list...)' on a slice of uses of the call's own.
-/
namespace Go.Proofs.YtnchgeiinkaefaaGreatDoor.Sums
set_option linter.unusedVariables false
open Go.RowKit
open Uses (U U0 UR UC UOwn hide unhide infoU)

/-- three values each -/
abbrev flat2 (l : List U) : List Value := l.flatMap fun x => [.string x.1, .int .i64 x.2]
theorem flat2_len : ∀ l : List U, (flat2 l).length = l.length * 2
  | [] => rfl
  | x :: xs => by
    have := flat2_len xs
    simp only [flat2, List.flatMap_cons, List.length_append, List.length_cons, List.length_nil] at this ⊢
    omega
theorem flat2_get : ∀ (l : List U) (i : Nat) (x : U), l[i]? = some x → (flat2 l)[i * 2]? = some (.string x.1) ∧ (flat2 l)[i * 2 + 1]? = some (.int .i64 x.2)
  | [], i, x, h => by simp at h
  | y :: ys, 0, x, h => by
    simp only [List.getElem?_cons_zero, Option.some.injEq] at h
    subst h
    simp [flat2]
  | y :: ys, i + 1, x, h => by
    have := flat2_get ys i x (by simpa using h)
    have e1 : (i + 1) * 2 = i * 2 + 1 + 1 := by omega
    rw [e1]
    simp only [flat2, List.flatMap_cons, List.cons_append, List.nil_append, List.getElem?_cons_succ]
    exact this
theorem flat2_one (l : List U) : ∀ u ∈ flat2 l, u.oneCell' = true := by
  intro u hu
  obtain ⟨x, _, hx⟩ := List.mem_flatMap.1 hu
  simp only [List.mem_cons, List.not_mem_nil, or_false] at hx
  rcases hx with rfl | rfl <;> rfl
theorem flat2_at {l : List U} {j : Nat} {u : Value} (h : (flat2 l)[j]? = some u) : j / 2 < l.length ∧ u = (if j % 2 = 0 then .string (l.getD (j / 2) U0).1 else .int .i64 (l.getD (j / 2) U0).2) := by
  have hj : j < (flat2 l).length := (List.getElem?_eq_some_iff.1 h).1
  rw [flat2_len] at hj
  have hlt : j / 2 < l.length := by omega
  refine ⟨hlt, ?_⟩
  have hx : l[j / 2]? = some (l.getD (j / 2) U0) := by rw [List.getElem?_eq_getElem hlt]; simp [List.getD, hlt]
  obtain ⟨h0, h1⟩ := flat2_get l (j / 2) _ hx
  rcases (by omega : j % 2 = 0 ∨ j % 2 = 1) with e | e
  · have ej : j = j / 2 * 2 := by omega
    rw [ej, h0] at h
    rw [if_pos e]
    exact (Option.some.inj h).symm
  · have ej : j = j / 2 * 2 + 1 := by omega
    rw [ej, h1] at h
    rw [if_neg (by omega)]
    exact (Option.some.inj h).symm

/-- the slice of the call's own in block b, not below B, holds l -/
def XU (W : World) (B b c : Nat) (l : List U) : Prop := W.ownsRow B 73 2 (.slice (some ⟨b, 0, none⟩) l.length c) l.length (flat2 l)

theorem XU.own {W : World} {B b c : Nat} {l : List U} (h : XU W B b c l) : B ≤ b ∧ UOwn W b l := by
  obtain ⟨_, h2⟩ := h
  rcases h2 with ⟨h2, _⟩ | ⟨g, cap, cur, hv, hb, hg, _, _, hc3, hc4⟩
  · simp at h2
  · simp only [Value.slice.injEq, Option.some.injEq, Addr.mk.injEq, and_true, true_and] at hv
    obtain ⟨rfl, rfl⟩ := hv
    refine ⟨hb, ⟨?_, fun i hi => ?_⟩, fun j => ?_⟩
    · refine Nat.lt_of_not_le fun hle => ?_
      rw [Array.getElem?_eq_none hle] at hg; simp at hg
    · have hx : l[i]? = some (l.getD i U0) := by rw [List.getElem?_eq_getElem hi]; simp [List.getD, hi]
      obtain ⟨h0, h1⟩ := flat2_get l i _ hx
      rw [← hc4, List.getElem?_take_of_lt (by omega)] at h0 h1
      simp only [World.cell?, hg]
      refine ⟨?_, ?_⟩
      · simpa using h0
      · simpa using h1
    · simp only [World.frozen?, hg]; simp
theorem XU.cap {W : World} {B b c : Nat} {l : List U} (h : XU W B b c l) : l.length ≤ c := by
  rcases h.2 with ⟨h3, _⟩ | ⟨g, cap, cur, hv, _, _, h3, _⟩
  · simp at h3
  · simp only [Value.slice.injEq, Option.some.injEq, Addr.mk.injEq, and_true, true_and] at hv
    omega
theorem XU.ur {W : World} {B b c : Nat} {l : List U} (h : XU W B b c l) : UR W (.slice (some ⟨b, 0, none⟩) l.length c) l := .inr ⟨b, 0, c, rfl, h.own.2.1⟩
theorem XU.kept {W W' : World} {B b c : Nat} {l : List U} {r : Option Nat} (h : XU W B b c l) (hg : W.grownBy W' r) (hne : some b ≠ r) : XU W' B b c l :=
  World.ownsRow.kept h hg (.inr (by simpa [Value.ownBlock] using hne))
theorem XU.made (w : World) (B : Nat) (hB : B ≤ w.heap.size) (t : TypeId) (ht : t = 73) : XU (w.alloc (.cells #[] t)) B w.heap.size 0 [] := by
  subst ht
  refine ⟨rfl, .inr ⟨w.heap.size, 0, #[], rfl, hB, (MapKept.heap_alloc w _).1, by simp, by simp, by simp, by simp⟩⟩

theorem src_of {w : World} {xv : Value} {l2 : List U} (hx : UR w xv l2) (i : TypeInfo) (hs : i.size = 2) : Src Tryz.prog i.size 48 xv l2.length (flat2 l2) w := by
  rw [hs]
  rcases hx with ⟨rfl, a, c, rfl⟩ | ⟨b2, o2, cap2, rfl, hc⟩
  · cases a with
    | none => exact Src.ofNil w Tryz.underlying48 c
    | some ad => exact Src.ofSlice w Tryz.underlying48 ad 0 c [] rfl (fun j u hj => by simp at hj) (fun u hu => by simp at hu)
  · refine Src.ofSlice w Tryz.underlying48 ⟨b2, o2, none⟩ l2.length cap2 (flat2 l2) (flat2_len l2) (fun j u hj => ?_) (flat2_one l2)
    obtain ⟨hlt, rfl⟩ := flat2_at hj
    obtain ⟨c0, c1⟩ := hc.2 (j / 2) hlt
    rw [Addr.add_lit]
    rcases (by omega : j % 2 = 0 ∨ j % 2 = 1) with e | e
    · rw [if_pos e]
      have ej : o2 + j = o2 + j / 2 * 2 := by omega
      rw [ej]; exact c0
    · rw [if_neg (by omega)]
      have ej : o2 + j = o2 + j / 2 * 2 + 1 := by omega
      rw [ej]; exact c1

theorem run_appU (w : World) (ty : TypeId) (B b c n : Nat) (l l2 : List U) (xv : Value) (hn : l.length = n) (hown : XU w B b c l) (hx : UR w xv l2) (hl : l.length + l2.length ≤ 3000000) (hB : B ≤ w.heap.size) :
    ∃ b' c' w', (Builtin.append_ #[48, 48] ty #[.slice (some ⟨b, 0, none⟩) n c, xv]).run Tryz.prog w = .ok (.slice (some ⟨b', 0, none⟩) (n + l2.length) c') w' ∧ XU w' B b' c' (l ++ l2) ∧ w.grownBy w' (some b) ∧ (b = b' ∨ b' = w.heap.size) ∧ b' < w'.heap.size := by
  subst hn
  obtain ⟨i, hi, h2⟩ := Option.map_eq_some_iff.1 infoU
  simp only [Prod.mk.injEq] at h2
  obtain ⟨hz, hs, hb⟩ := h2
  by_cases h0 : l2 = []
  · subst h0
    have hsrc := src_of hx i hs
    obtain ⟨hB', hE⟩ := hown.own
    have hcap : l.length ≤ c := by
      rcases hown.2 with ⟨h3, _⟩ | ⟨g, cap, cur, hv, _, _, h3, _⟩
      · simp at h3
      · simp only [Value.slice.injEq, Option.some.injEq, Addr.mk.injEq, and_true, true_and] at hv
        omega
    have := run_append_room_src (P := Tryz.prog) w 48 48 ty 73 i Tryz.underlying48 hi b 0 l.length c xv 0 [] hsrc (by omega) (fun j hj => by simp at hj) (fun j hj => by simp at hj)
    refine ⟨b, c, w, this, by rw [List.append_nil]; exact hown, World.grownBy.refl _ _, .inl rfl, hE.1.1⟩
  · rcases hx with ⟨h0', _⟩ | ⟨b2, o2, cap2, rfl, hc⟩
    · exact absurd h0' h0
    have hpos : 0 < l2.length := List.length_pos_iff.2 h0
    have hUR : UR w (.slice (some ⟨b2, o2, none⟩) l2.length cap2) l2 := .inr ⟨b2, o2, cap2, rfl, hc⟩
    have hnews : ∀ j u, (flat2 l2)[j]? = some u → w.cell? ((⟨b2, o2, none⟩ : Addr).add j) = some u := fun j u hj => by
      obtain ⟨hlt, rfl⟩ := flat2_at hj
      obtain ⟨c0, c1⟩ := hc.2 (j / 2) hlt
      rw [Addr.add_lit]
      rcases (by omega : j % 2 = 0 ∨ j % 2 = 1) with e | e
      · rw [if_pos e]
        have ej : o2 + j = o2 + j / 2 * 2 := by omega
        rw [ej]; exact c0
      · rw [if_neg (by omega)]
        have ej : o2 + j = o2 + j / 2 * 2 + 1 := by omega
        rw [ej]; exact c1
    obtain ⟨g, cap, w', hr, g2, g3, g4, g5⟩ := run_append_lies (P := Tryz.prog) w 48 ty B 73 i _ 2 24 Tryz.underlying48 hi hz hs hb rfl (by omega) _ l.length (flat2 l) hown ⟨b2, o2, none⟩ l2.length cap2 (flat2 l2) (flat2_len l2) hnews (flat2_one l2) hpos (by unfold maxLen; omega) (by omega) hB _ rfl
    refine ⟨g, cap, w', hr, ?_, g3, ?_, g5⟩
    · unfold XU
      rw [List.length_append, flat2, List.flatMap_append]
      exact g2
    · rcases g4 with g4 | g4
      · exact .inl (by simpa [Value.ownBlock] using g4)
      · exact .inr g4

/-- the first k of them, in the same block -/
theorem XU.take {W : World} {B b c : Nat} {l : List U} (h : XU W B b c l) (k : Nat) (hk : k ≤ l.length) : XU W B b c (l.take k) := by
  have hlen : (l.take k).length = k := by rw [List.length_take]; omega
  obtain ⟨_, h2⟩ := h
  rcases h2 with ⟨h2, _⟩ | ⟨g, cap, cur, hv, hb, hg, hc1, hc2, hc3, hc4⟩
  · simp at h2
  · simp only [Value.slice.injEq, Option.some.injEq, Addr.mk.injEq, and_true, true_and] at hv
    obtain ⟨rfl, rfl⟩ := hv
    refine ⟨by rw [flat2_len], .inr ⟨b, c, cur, by rw [hlen], hb, hg, by omega, hc2, hc3, ?_⟩⟩
    rw [hlen]
    have e1 : flat2 l = flat2 (l.take k) ++ flat2 (l.drop k) := by
      unfold flat2
      rw [← List.flatMap_append, List.take_append_drop]
    rw [e1] at hc4
    have e2 : (cur.toList.take (l.length * 2)).take (k * 2) = (flat2 (l.take k) ++ flat2 (l.drop k)).take (k * 2) := by rw [hc4]
    rw [List.take_take, Nat.min_eq_left (by omega)] at e2
    rw [e2]
    have e3 : (flat2 (l.take k)).length = k * 2 := by rw [flat2_len, hlen]
    rw [List.take_append_of_le_length (by omega), ← e3, List.take_length]
theorem XU.mono {W : World} {B B' b c : Nat} {l : List U} (h : XU W B b c l) (hb : B' ≤ B) : XU W B' b c l := by
  obtain ⟨h1, h2⟩ := h
  refine ⟨h1, ?_⟩
  rcases h2 with h2 | ⟨g, cap, cur, hv, hb', r⟩
  · exact .inl h2
  · exact .inr ⟨g, cap, cur, hv, by omega, r⟩
/-- another number at one of them -/
theorem XU.setQ {W : World} {B b c : Nat} {l : List U} (h : XU W B b c l) {k : Nat} (hk : k < l.length) (q : Int) : XU (W.setCell ⟨b, k * 2 + 1, none⟩ (.int .i64 q)) B b c (l.set k ((l.getD k U0).1, q)) := by
  have hlen : (l.set k ((l.getD k U0).1, q)).length = l.length := by rw [List.length_set]
  obtain ⟨h1, h2⟩ := h
  rcases h2 with ⟨h2, _⟩ | ⟨g, cap, cur, hv, hb, hg, hc1, hc2, hc3, hc4⟩
  · simp at h2
  · simp only [Value.slice.injEq, Option.some.injEq, Addr.mk.injEq, and_true, true_and] at hv
    obtain ⟨rfl, rfl⟩ := hv
    have hbs : b < W.heap.size := by
      refine Nat.lt_of_not_le fun hle => ?_
      rw [Array.getElem?_eq_none hle] at hg; simp at hg
    refine ⟨by rw [flat2_len], .inr ⟨b, c, cur.set! (k * 2 + 1) (.int .i64 q), by rw [hlen], hb, ?_, by omega, hc2, by simpa using hc3, ?_⟩⟩
    · simp only [World.setCell, Array.getElem?_modify, hg, Option.map_some]
      simp
    · rw [hlen]
      refine List.ext_getElem? fun j => ?_
      by_cases hj : j < l.length * 2
      · rw [List.getElem?_take_of_lt hj]
        have hfl : (flat2 (l.set k ((l.getD k U0).1, q))).length = l.length * 2 := by rw [flat2_len, hlen]
        have h3 : ∃ u, (flat2 (l.set k ((l.getD k U0).1, q)))[j]? = some u := ⟨_, List.getElem?_eq_getElem (by omega)⟩
        obtain ⟨u, hu⟩ := h3
        have h4 : ∃ u, (flat2 l)[j]? = some u := ⟨_, List.getElem?_eq_getElem (by rw [flat2_len]; omega)⟩
        obtain ⟨u', hu'⟩ := h4
        obtain ⟨_, e1⟩ := flat2_at hu
        obtain ⟨_, e2⟩ := flat2_at hu'
        have hcj : cur.toList[j]? = some u' := by rw [← hu', ← hc4, List.getElem?_take_of_lt hj]
        rw [hu]
        simp only [Array.set!, Array.toList_setIfInBounds]
        by_cases ej : j = k * 2 + 1
        · subst ej
          rw [List.getElem?_set_self (by rw [Array.length_toList]; omega)]
          have d1 : (k * 2 + 1) % 2 = 1 := by omega
          have d2 : (k * 2 + 1) / 2 = k := by omega
          rw [d1, d2, if_neg (by omega)] at e1
          rw [e1]
          simp [List.getD, hk]
        · rw [List.getElem?_set_ne (by omega), hcj, e1, e2]
          by_cases e3 : j / 2 = k
          · have e4 : j % 2 = 0 := by omega
            rw [if_pos e4, if_pos e4, e3]
            simp [List.getD, hk]
          · have : (l.set k ((l.getD k U0).1, q)).getD (j / 2) U0 = l.getD (j / 2) U0 := by
              simp only [List.getD]
              rw [List.getElem?_set_ne (by omega)]
            rw [this]
      · rw [List.getElem?_eq_none (by rw [List.length_take]; omega), List.getElem?_eq_none (by rw [flat2_len, hlen]; omega)]

section
variable {ops : Array Oper} {o : Oper} {a : Act} {K : Act → World → Prop} {Q : Exit → Act → World → Prop} {P0 : Prop}
theorem wp_appU (w : World) (s x : Operand) (ho : o.op = .call { callee := .builtin .append, args := #[s, x], argTypes := #[48, 48] })
    (B b c n : Nat) (l l2 : List U) (xv : Value) (hn : l.length = n) (hs : a.eval s = .slice (some ⟨b, 0, none⟩) n c) (hown : XU w B b c l) (hxv : a.eval x = xv) (hx : UR w xv l2) (hl : l.length + l2.length ≤ 3000000) (hB : B ≤ w.heap.size)
    (h : ∀ b' c' w', XU w' B b' c' (l ++ l2) → w.grownBy w' (some b) → (b = b' ∨ b' = w.heap.size) → b' < w'.heap.size → K (a.put o.dst (.slice (some ⟨b', 0, none⟩) (n + l2.length) c')) w') : o.wp Tryz.prog a w K Q := by
  obtain ⟨b', c', w', hr, h2, h3, h4, h5⟩ := run_appU w o.type B b c n l l2 xv hn hown hx hl hB
  unfold Oper.wp execOp
  simp only [ho, resolve, invoke, builtin, Sem.run_bind, Sem.run_pure, Result.andThen_ok, List.map_toArray, List.map_cons, List.map_nil, hs, hxv, hr]
  exact h b' c' w' h2 h3 h4 h5
theorem listAppU (w : World) {rest : List Oper} (hgd : o.guard = none) (s x : Operand) (ho : o.op = .call { callee := .builtin .append, args := #[s, x], argTypes := #[48, 48] })
    (B b c n : Nat) (l l2 : List U) (xv : Value) (hn : l.length = n) (hs : a.eval s = .slice (some ⟨b, 0, none⟩) n c) (hown : XU w B b c l) (hxv : a.eval x = xv) (hx : UR w xv l2) (hl : l.length + l2.length ≤ 3000000) (hB : B ≤ w.heap.size)
    (h : ∀ b' c' w', XU w' B b' c' (l ++ l2) → w.grownBy w' (some b) → (b = b' ∨ b' = w.heap.size) → b' < w'.heap.size → wpList Tryz.prog ops Q rest (a.put o.dst (.slice (some ⟨b', 0, none⟩) (n + l2.length) c')) w') :
    wpList Tryz.prog ops Q (o :: rest) a w :=
  wpList_plain hgd fun _ hK => wp_appU w s x ho B b c n l l2 xv hn hs hown hxv hx hl hB fun b' c' w' h2 h3 h4 h5 => hK _ _ (h b' c' w' h2 h3 h4 h5)
theorem stepAppU (w : World) (hgd : o.guard = none) (s x : Operand) (ho : o.op = .call { callee := .builtin .append, args := #[s, x], argTypes := #[48, 48] })
    (B b c n : Nat) (l l2 : List U) (xv : Value) (hn : l.length = n) (hs : a.eval s = .slice (some ⟨b, 0, none⟩) n c) (hown : XU w B b c l) (hxv : a.eval x = xv) (hx : UR w xv l2) (hl : l.length + l2.length ≤ 3000000) (hB : B ≤ w.heap.size)
    (h : ∀ b' c' w', XU w' B b' c' (l ++ l2) → w.grownBy w' (some b) → (b = b' ∨ b' = w.heap.size) → b' < w'.heap.size → K (a.put o.dst (.slice (some ⟨b', 0, none⟩) (n + l2.length) c')) w') :
    if Region.wanted o (yielded ops a.tmps) = true then Oper.wp Tryz.prog o a w K Q else P0 := by
  have hw : Region.wanted o (yielded ops a.tmps) = true := by simp [Region.wanted, hgd]
  rw [if_pos hw]
  exact wp_appU w s x ho B b c n l l2 xv hn hs hown hxv hx hl hB h
end
end Go.Proofs.YtnchgeiinkaefaaGreatDoor.Sums
end

section
/-
  Lists of events that are right: impl.UseOk and spec.UseOk answer the same.
-/
namespace Go.Proofs.YtnchgeiinkaefaaGreatDoor.Evs
set_option linter.unusedVariables false
open Go.RowKit

/-- an event that is right -/
def rightE (e : E) : Bool := Ids.idB e.1 && (Kinds.nameB e.2.1 && decide (0 ≤ e.2.2 ∧ e.2.2 ≤ 1000000000))
/-- byte by byte before -/
abbrev ltS (s t : ByteArray) : Bool := Op.bytesLess s.toList t.toList

theorem ltS_total (s t : ByteArray) : (ltS t s || t.toList == s.toList) = !ltS s t := by
  unfold ltS
  rw [Proofs.bytesLess_eq, Proofs.bytesLess_eq]
  by_cases h1 : s.toList < t.toList
  · have h2 : ¬ t.toList < s.toList := fun h => List.lt_irrefl _ (List.lt_trans h1 h)
    have h3 : t.toList ≠ s.toList := fun h => by rw [h] at h1; exact List.lt_irrefl _ h1
    simp [h1, h2, h3]
  · by_cases h3 : t.toList = s.toList
    · simp [h3]
    · have h2 : t.toList < s.toList := by
        have hle : t.toList ≤ s.toList := h1
        rcases Decidable.em (t.toList < s.toList) with h | h
        · exact h
        · exact absurd (List.le_antisymm hle h) h3
      simp [h1, h2]

/-- event number i is not right, or not behind the one before -/
def badAt (l : List E) (i : Nat) : Bool := !rightE (l.getD i E0) || (decide (0 < i) && !ltS (l.getD (i - 1) E0).1 (l.getD i E0).1)
/-- UseOk -/
def okB (l : List E) : Bool := decide (l.length ≤ 20) && (List.range l.length).all fun i => !badAt l i

theorem okB_long {l : List E} (h : 20 < l.length) : okB l = false := by unfold okB; rw [decide_eq_false (by omega)]; rfl
theorem okB_bad {l : List E} {k : Nat} (hk : k < l.length) (h : badAt l k = true) : okB l = false := by
  have : ((List.range l.length).all fun i => !badAt l i) = false := by
    rw [List.all_eq_false]
    exact ⟨k, by simpa using hk, by simp [h]⟩
  unfold okB; rw [this]; simp
theorem okB_true {l : List E} (h : l.length ≤ 20) (hl : ∀ i, i < l.length → badAt l i = false) : okB l = true := by
  have : ((List.range l.length).all fun i => !badAt l i) = true := by
    rw [List.all_eq_true]
    intro i hi
    rw [hl i (by simpa using hi)]; rfl
  unfold okB; rw [this, decide_eq_true h]; rfl

/-- spec.l3Event -/
theorem rightS (e : E) (w : World) (h1 : e.1.size ≤ maxLen) (h2 : e.2.1.size ≤ maxLen) :
    Calls Tryz.prog 34 #[eV e] w fun x w' => x = .returned (.bool (rightE e)) ∧ Below w.heap.size w w' := by
  obtain ⟨s, m, q⟩ := e
  simp only [eV, rightE] at *
  generalize hi : Ids.idB s = bi
  have HI := hide hi; clear hi
  generalize hm : Kinds.nameB m = bm
  have HM := hide hm; clear hm
  generalize hq : decide (0 ≤ q ∧ q ≤ 1000000000) = bq
  have HQ := hide hq; clear hq
  go_enter Tryz.func34, Tryz.ntmps34
  go_wp2_with (fail)
  refine (Ids.idS s _ h1).mono ?_
  rintro e w1 ⟨rfl, hb1⟩
  rw [unhide HI]
  have c1 : w1.cell? ⟨w.heap.size, 1, none⟩ = some (.string m) := (hb1.cell (p := ⟨w.heap.size, 1, none⟩) (by simp)).trans (by simp)
  have c2 : w1.cell? ⟨w.heap.size, 2, none⟩ = some (.int .i64 q) := (hb1.cell (p := ⟨w.heap.size, 2, none⟩) (by simp)).trans (by simp)
  have z1 : w.heap.size < w1.heap.size := Nat.lt_of_lt_of_le (by simp) hb1.size
  have HB : Hid (Below w.heap.size w w1) := hide (below_trans ((Below.refl _ _).alloc (Nat.le_refl _) _) hb1)
  clear hb1
  cases bi with
  | false =>
    go_wp2
    go_ret
    exact ⟨rfl, unhide HB⟩
  | true =>
    go_wp2_with (fail)
    refine (Kinds.nameS m _ h2).mono ?_
    rintro e w2 ⟨rfl, hb2⟩
    rw [unhide HM]
    have d2 : w2.cell? ⟨w.heap.size, 2, none⟩ = some (.int .i64 q) := (hb2.cell (p := ⟨w.heap.size, 2, none⟩) z1).trans c2
    have HB2 : Hid (Below w.heap.size w w2) := hide (below_trans (unhide HB) hb2)
    clear hb2 HB c1 c2
    cases bm with
    | false =>
      go_wp2
      go_ret
      exact ⟨rfl, unhide HB2⟩
    | true =>
      by_cases q0 : 0 ≤ q
      · have e : bq = decide (q ≤ 1000000000) := (unhide HQ).symm.trans (by simp [q0])
        subst e
        go_wp2
        go_ret
        exact ⟨rfl, unhide HB2⟩
      · have e : bq = false := (unhide HQ).symm.trans (by simp [q0])
        subst e
        go_wp2
        go_ret
        exact ⟨rfl, unhide HB2⟩

/-- impl.useQty -/
theorem qtyI (q : Int) (w : World) : Calls Tryz.prog 94 #[.int .i64 q] w fun x w' => x = .returned (.bool (decide (0 ≤ q ∧ q ≤ 1000000000))) ∧ w' = w := by
  by_cases q0 : 0 ≤ q
  · have e : decide (0 ≤ q ∧ q ≤ 1000000000) = decide (q ≤ 1000000000) := by simp [q0]
    rw [e]
    clear e
    go_enter Tryz.func94, Tryz.ntmps94
    go_wp2
    go_ret
    exact ⟨rfl, rfl⟩
  · have e : decide (0 ≤ q ∧ q ≤ 1000000000) = false := by simp [q0]
    rw [e]
    clear e
    go_enter Tryz.func94, Tryz.ntmps94
    go_wp2
    go_ret
    exact ⟨rfl, rfl⟩

/-- impl.eventRight -/
theorem rightI (e : E) (w : World) (h1 : e.1.size ≤ maxLen) (h2 : e.2.1.size ≤ maxLen) :
    Calls Tryz.prog 61 #[eV e] w fun x w' => x = .returned (.bool (rightE e)) ∧ Below w.heap.size w w' := by
  obtain ⟨s, m, q⟩ := e
  simp only [eV, rightE] at *
  generalize hi : Ids.idB s = bi
  have HI := hide hi; clear hi
  generalize hm : Kinds.nameB m = bm
  have HM := hide hm; clear hm
  generalize hq : decide (0 ≤ q ∧ q ≤ 1000000000) = bq
  have HQ := hide hq; clear hq
  go_enter Tryz.func61, Tryz.ntmps61
  go_wp2_with (fail)
  refine (Ids.idI s _ h1).mono ?_
  rintro e w1 ⟨rfl, hb1⟩
  rw [unhide HI]
  have c1 : w1.cell? ⟨w.heap.size, 1, none⟩ = some (.string m) := (hb1.cell (p := ⟨w.heap.size, 1, none⟩) (by simp)).trans (by simp)
  have c2 : w1.cell? ⟨w.heap.size, 2, none⟩ = some (.int .i64 q) := (hb1.cell (p := ⟨w.heap.size, 2, none⟩) (by simp)).trans (by simp)
  have z1 : w.heap.size < w1.heap.size := Nat.lt_of_lt_of_le (by simp) hb1.size
  have HB : Hid (Below w.heap.size w w1) := hide (below_trans ((Below.refl _ _).alloc (Nat.le_refl _) _) hb1)
  clear hb1
  cases bi with
  | false =>
    go_wp2
    go_ret
    exact ⟨rfl, unhide HB⟩
  | true =>
    go_wp2_with (fail)
    refine (Kinds.nameI m _ h2).mono ?_
    rintro e w2 ⟨rfl, hb2⟩
    rw [unhide HM]
    have d2 : w2.cell? ⟨w.heap.size, 2, none⟩ = some (.int .i64 q) := (hb2.cell (p := ⟨w.heap.size, 2, none⟩) z1).trans c2
    have HB2 : Hid (Below w.heap.size w w2) := hide (below_trans (unhide HB) hb2)
    clear hb2 HB c1 c2
    cases bm with
    | false =>
      go_wp2
      go_ret
      exact ⟨rfl, unhide HB2⟩
    | true =>
      go_wp2_with (fail)
      refine (qtyI q _).mono ?_
      rintro e w3 ⟨rfl, rfl⟩
      rw [unhide HQ]
      go_wp2
      go_ret
      exact ⟨rfl, unhide HB2⟩
end Go.Proofs.YtnchgeiinkaefaaGreatDoor.Evs
end

section
/-
  Lists of events that are right: impl.rightInOrder at events, and impl.UseOk.
-/
namespace Go.Proofs.YtnchgeiinkaefaaGreatDoor.Evs
set_option linter.unusedVariables false
open Go.RowKit RegIn

theorem bad_next {l : List E} {k : Nat} (h : ∀ j, j < k → badAt l j = false) (hk : badAt l k = false) : ∀ j, j < k + 1 → badAt l j = false := fun j hj => by
  by_cases e : j < k
  · exact h j e
  · obtain rfl : j = k := by omega
    exact hk

theorem calledI (s m : ByteArray) (q : Int) (W : World) : Calls Tryz.prog 62 #[.agg #[.string s, .string m, .int .i64 q]] W fun x w' => x = .returned (.string s) ∧ Below W.heap.size W w' := by
  go_enter Tryz.func62, Tryz.ntmps62
  go_wp2
  go_ret
  exact ⟨rfl, (Below.refl _ _).alloc (Nat.le_refl _) _⟩

/-- the worlds of a round: the round's own event at B, the one ahead of it at p in block b -/
def SW (w : World) (B b p : Nat) (s m : ByteArray) (q : Int) (t m' : ByteArray) (q' : Int) (w2 : World) : Prop :=
  w2.cell? ⟨B, 0, none⟩ = some (.string s) ∧ w2.cell? ⟨B, 1, none⟩ = some (.string m) ∧ w2.cell? ⟨B, 2, none⟩ = some (.int .i64 q) ∧ w2.cell? ⟨b, p, none⟩ = some (.string t) ∧ w2.cell? ⟨b, p + 1, none⟩ = some (.string m') ∧ w2.cell? ⟨b, p + 2, none⟩ = some (.int .i64 q') ∧ B < w2.heap.size ∧ b < w2.heap.size ∧ Below w.heap.size w w2
theorem SW.kept {w : World} {B b p : Nat} {s m : ByteArray} {q : Int} {t m' : ByteArray} {q' : Int} {w2 w3 : World} (h : SW w B b p s m q t m' q' w2) (hb : Below w2.heap.size w2 w3) : SW w B b p s m q t m' q' w3 := by
  obtain ⟨a1, a2, a3, a4, a5, a6, a7, a8, a9⟩ := h
  exact ⟨(hb.cell (p := ⟨B, 0, none⟩) a7).trans a1, (hb.cell (p := ⟨B, 1, none⟩) a7).trans a2, (hb.cell (p := ⟨B, 2, none⟩) a7).trans a3, (hb.cell (p := ⟨b, p, none⟩) a8).trans a4, (hb.cell (p := ⟨b, p + 1, none⟩) a8).trans a5, (hb.cell (p := ⟨b, p + 2, none⟩) a8).trans a6, Nat.lt_of_lt_of_le a7 hb.size, Nat.lt_of_lt_of_le a8 hb.size, below_trans a9 hb⟩

set_option maxHeartbeats 2000000 in
/-- impl.rightInOrder at events -/
theorem ordI (v : Value) (l : List E) (w : World) (h : ER w v l) (hl : l.length ≤ 1048576) (hs : ∀ u ∈ l, u.1.size ≤ maxLen ∧ u.2.1.size ≤ maxLen) :
    Calls Tryz.prog 60 #[v, .int .i64 20, .func (.func 61) #[] #[], .func (.func 62) #[] #[]] w fun e w' => e = .returned (.bool (okB l)) ∧ Below w.heap.size w w' := by
  by_cases h20 : 20 < l.length
  · rw [okB_long h20]
    obtain ⟨a, c, rfl⟩ := h.slice
    have y : (20 : Int) < l.length := by omega
    clear h
    go_enter Tryz.func60, Tryz.ntmps60
    go_wp2
    go_ret
    exact ⟨rfl, Below.refl _ _⟩
  have y : (l.length : Int) ≤ 20 := by omega
  rcases h with ⟨rfl, a, c, rfl⟩ | ⟨b, o, cap, rfl, hc⟩
  · go_enter Tryz.func60, Tryz.ntmps60
    go_wp2
    refine wp_loop_rounds 1 ?_
    rw [rounds_succ]
    go_wp2
    go_ret
    exact ⟨rfl, Below.refl _ _⟩
  · have HC := hide hc
    have hbs := hc.1
    clear hc
    generalize hr : okB l = r
    have HR := hide hr; clear hr
    go_enter Tryz.func60, Tryz.ntmps60
    go_wp2
    go_loopw [17] (fun i wr => ∃ k : Nat, k ≤ l.length ∧ i = .int .i64 k ∧ Hid (∀ j, j < k → badAt l j = false) ∧ Hid (Below w.heap.size w wr)) (fun i _ => l.length - (intOf i).toNat)
    case atStart => exact ⟨0, Nat.zero_le _, rfl, hide (fun j hj => by omega), hide (Below.refl _ _)⟩
    case round =>
      obtain ⟨k, hk, rfl, hd, hb⟩ := hrel
      by_cases hlt : k < l.length
      · obtain ⟨c0, c1, c2⟩ := ((unhide HC).kept (unhide hb)).2 k hlt
        obtain ⟨hsz, hmz⟩ : (l.getD k E0).1.size ≤ maxLen ∧ (l.getD k E0).2.1.size ≤ maxLen := hs _ (by simp [List.getD, hlt])
        have i1 : (0 : Int) ≤ (k : Int) := by omega
        have i2 : (k : Int) < (l.length : Int) := by omega
        have z1 : b < wr.heap.size := Nat.lt_of_lt_of_le hbs (unhide hb).size
        have HBA : Hid (badAt l k = (!rightE (l.getD k E0) || (decide (0 < k) && !ltS (l.getD (k - 1) E0).1 (l.getD k E0).1))) := hide rfl
        have k1 : k - 1 < l.length := by omega
        obtain ⟨p0, p1, p2⟩ := ((unhide HC).kept (unhide hb)).2 (k - 1) k1
        generalize hx : l.getD k E0 = x at *
        generalize hp : l.getD (k - 1) E0 = y' at *
        clear hx hp
        obtain ⟨s, m, q⟩ := x
        obtain ⟨t, m', q'⟩ := y'
        simp only at c0 c1 c2 p0 p1 p2 hsz hmz HBA
        have HCA : Hid (∀ W : World, Calls Tryz.prog 61 #[.agg #[.string s, .string m, .int .i64 q]] W fun x w' => x = .returned (.bool (rightE (s, m, q))) ∧ Below W.heap.size W w') := hide (fun W => rightI (s, m, q) W hsz hmz)
        generalize hR : rightE (s, m, q) = rt at *
        clear hR
        generalize hS : SW w wr.heap.size b (o + (k - 1) * 3) s m q t m' q' = S
        have HSI : Hid (∀ w2 : World, SW w wr.heap.size b (o + (k - 1) * 3) s m q t m' q' w2 → S w2) := hide (fun w2 h => by rw [← hS]; exact h)
        have HSE : Hid (∀ w2 : World, S w2 → SW w wr.heap.size b (o + (k - 1) * 3) s m q t m' q' w2) := hide (fun w2 h => by rw [← hS] at h; exact h)
        clear hS
        have g0 : ∀ g : In S, g.x.cell? ⟨wr.heap.size, 0, none⟩ = some (.string s) := fun g => (unhide HSE _ g.h).1
        have g1 : ∀ g : In S, g.x.cell? ⟨wr.heap.size, 1, none⟩ = some (.string m) := fun g => (unhide HSE _ g.h).2.1
        have g2 : ∀ g : In S, g.x.cell? ⟨wr.heap.size, 2, none⟩ = some (.int .i64 q) := fun g => (unhide HSE _ g.h).2.2.1
        have g3 : ∀ g : In S, g.x.cell? ⟨b, o + (k - 1) * 3, none⟩ = some (.string t) := fun g => (unhide HSE _ g.h).2.2.2.1
        have g4 : ∀ g : In S, g.x.cell? ⟨b, o + (k - 1) * 3 + 1, none⟩ = some (.string m') := fun g => (unhide HSE _ g.h).2.2.2.2.1
        have g5 : ∀ g : In S, g.x.cell? ⟨b, o + (k - 1) * 3 + 2, none⟩ = some (.int .i64 q') := fun g => (unhide HSE _ g.h).2.2.2.2.2.1
        have HCB : Hid (∀ g : In S, Calls Tryz.prog 61 #[.agg #[.string s, .string m, .int .i64 q]] g.x fun x w' => x = .returned (.bool rt) ∧ S w') := hide (fun g => (unhide HCA g.x).mono (fun x w' ⟨hx, hb⟩ => ⟨hx, unhide HSI _ ((unhide HSE _ g.h).kept hb)⟩))
        have HCC : Hid (∀ (s m : ByteArray) (q : Int) (g : In S), Calls Tryz.prog 62 #[.agg #[.string s, .string m, .int .i64 q]] g.x fun x w' => x = .returned (.string s) ∧ S w') := hide (fun s m q g => (calledI s m q g.x).mono (fun x w' ⟨hx, hb⟩ => ⟨hx, unhide HSI _ ((unhide HSE _ g.h).kept hb)⟩))
        clear HCA
        cases rt with
        | false =>
          have hr : r = false := (unhide HR).symm.trans (okB_bad hlt ((unhide HBA).trans (by simp)))
          subst hr
          go_wp2
          refine wp_region_in S (by kernel_rfl) (by kernel_rfl) (unhide HSI _ ⟨?_, ?_, ?_, ?_, ?_, ?_, ?_, ?_, ?_⟩) ?_
          · go_keep
          · go_keep
          · go_keep
          · go_keep
          · go_keep
          · go_keep
          · simp
          · simp; omega
          · exact below_drewN' ((unhide hb).alloc (unhide hb).size _) 1
          intro hne
          repeat (go_big_quiet_step (first | exact call_in _ (unhide HCB _) | exact call_in _ (unhide HCC _ _ _ _)))
          refine wpQuiet_nil ?_
          rintro _ ⟨g, rfl⟩
          have HG := hide (unhide HSE _ g.h).2.2.2.2.2.2.2.2
          go_wp2
          go_ret
          exact ⟨rfl, unhide HG⟩
        | true =>
          by_cases k0 : k = 0
          · have hd' : Hid (∀ j, j < k + 1 → badAt l j = false) := hide (bad_next (unhide hd) ((unhide HBA).trans (by simp [k0])))
            have kn : decide (0 < k) = false := by simp [k0]
            clear k0
            go_wp2
            refine wp_region_in S (by kernel_rfl) (by kernel_rfl) (unhide HSI _ ⟨?_, ?_, ?_, ?_, ?_, ?_, ?_, ?_, ?_⟩) ?_
            · go_keep
            · go_keep
            · go_keep
            · go_keep
            · go_keep
            · go_keep
            · simp
            · simp; omega
            · exact below_drewN' ((unhide hb).alloc (unhide hb).size _) 1
            intro hne
            repeat (go_big_quiet_step (first | exact call_in _ (unhide HCB _) | exact call_in _ (unhide HCC _ _ _ _)))
            refine wpQuiet_nil ?_
            rintro _ ⟨g, rfl⟩
            have HG := hide (unhide HSE _ g.h).2.2.2.2.2.2.2.2
            go_wp2
            exact ⟨⟨k + 1, by omega, by go_num, hd', HG⟩, by simp [intOf]; omega⟩
          · have kn : 0 < k := by omega
            have kk : (0 : Int) < (k : Int) := by omega
            have j1 : (0 : Int) ≤ (k : Int) - 1 := by omega
            have j2 : (k : Int) - 1 < (l.length : Int) := by omega
            have hwr : IntKind.i64.wrap ((k : Int) - 1) = (k : Int) - 1 := IntWalk.i64_in _ ⟨by omega, by omega⟩
            have htn : ((k : Int) - 1).toNat = k - 1 := by omega
            cases hlx : ltS t s with
            | false =>
              have hr : r = false := (unhide HR).symm.trans (okB_bad hlt ((unhide HBA).trans (by simp [kn, hlx])))
              subst hr
              go_wp2
              refine wp_region_in S (by kernel_rfl) (by kernel_rfl) (unhide HSI _ ⟨?_, ?_, ?_, ?_, ?_, ?_, ?_, ?_, ?_⟩) ?_
              · go_keep
              · go_keep
              · go_keep
              · go_keep
              · go_keep
              · go_keep
              · simp
              · simp; omega
              · exact below_drewN' ((unhide hb).alloc (unhide hb).size _) 1
              intro hne
              repeat (go_big_quiet_step (first | exact call_in _ (unhide HCB _) | exact call_in _ (unhide HCC _ _ _ _)))
              refine wpQuiet_nil ?_
              rintro _ ⟨g, rfl⟩
              have HG := hide (unhide HSE _ g.h).2.2.2.2.2.2.2.2
              go_wp2
              go_ret
              exact ⟨rfl, unhide HG⟩
            | true =>
              have hd' : Hid (∀ j, j < k + 1 → badAt l j = false) := hide (bad_next (unhide hd) ((unhide HBA).trans (by simp [kn, hlx])))
              go_wp2
              refine wp_region_in S (by kernel_rfl) (by kernel_rfl) (unhide HSI _ ⟨?_, ?_, ?_, ?_, ?_, ?_, ?_, ?_, ?_⟩) ?_
              · go_keep
              · go_keep
              · go_keep
              · go_keep
              · go_keep
              · go_keep
              · simp
              · simp; omega
              · exact below_drewN' ((unhide hb).alloc (unhide hb).size _) 1
              intro hne
              repeat (go_big_quiet_step (first | exact call_in _ (unhide HCB _) | exact call_in _ (unhide HCC _ _ _ _)))
              refine wpQuiet_nil ?_
              rintro _ ⟨g, rfl⟩
              have HG := hide (unhide HSE _ g.h).2.2.2.2.2.2.2.2
              go_wp2
              exact ⟨⟨k + 1, by omega, by go_num, hd', HG⟩, by simp [intOf]; omega⟩
      · have hr : r = true := (unhide HR).symm.trans (okB_true (by omega) (fun j hj => unhide hd j (by omega)))
        subst hr
        go_wp2
        go_ret
        exact ⟨rfl, unhide hb⟩

/-- impl.UseOk -/
theorem okI (v : Value) (l : List E) (w : World) (h : ER w v l) (hl : l.length ≤ 1048576) (hs : ∀ u ∈ l, u.1.size ≤ maxLen ∧ u.2.1.size ≤ maxLen) :
    Calls Tryz.prog 41 #[v] w fun e w' => e = .returned (.bool (okB l)) ∧ Below w.heap.size w w' := by
  have HO := hide (ordI v l w h hl hs)
  generalize okB l = z at HO ⊢
  clear h hs
  go_enter Tryz.func41, Tryz.ntmps41
  go_wp2_with (fail)
  refine (unhide HO).mono ?_
  rintro e w' ⟨rfl, hb⟩
  go_wp2
  go_ret
  exact ⟨rfl, hb⟩
end Go.Proofs.YtnchgeiinkaefaaGreatDoor.Evs
end

section
/-
  Rows that are right: impl.rowRight, impl.rightInOrder at rows, impl.rowsRight.
-/
namespace Go.Proofs.YtnchgeiinkaefaaGreatDoor.Bill
set_option linter.unusedVariables false
open Go.RowKit RegIn
open Evs (hide unhide below_trans below_drewN' ltS)
open BRow (R R0 RR RC)
open Kinds (nameB nameI)

/-- the worlds of a round: the round's own row at B, the one ahead of it at p in block b -/
def SWR (w : World) (B b p : Nat) (s : ByteArray) (m q : Int) (t : ByteArray) (m' q' : Int) (w2 : World) : Prop :=
  w2.cell? ⟨B, 0, none⟩ = some (.string s) ∧ w2.cell? ⟨B, 1, none⟩ = some (.int .i64 m) ∧ w2.cell? ⟨B, 2, none⟩ = some (.int .i64 q) ∧ w2.cell? ⟨b, p, none⟩ = some (.string t) ∧ w2.cell? ⟨b, p + 1, none⟩ = some (.int .i64 m') ∧ w2.cell? ⟨b, p + 2, none⟩ = some (.int .i64 q') ∧ B < w2.heap.size ∧ b < w2.heap.size ∧ Below w.heap.size w w2
theorem SWR.kept {w : World} {B b p : Nat} {s : ByteArray} {m q : Int} {t : ByteArray} {m' q' : Int} {w2 w3 : World} (h : SWR w B b p s m q t m' q' w2) (hb : Below w2.heap.size w2 w3) : SWR w B b p s m q t m' q' w3 := by
  obtain ⟨a1, a2, a3, a4, a5, a6, a7, a8, a9⟩ := h
  exact ⟨(hb.cell (p := ⟨B, 0, none⟩) a7).trans a1, (hb.cell (p := ⟨B, 1, none⟩) a7).trans a2, (hb.cell (p := ⟨B, 2, none⟩) a7).trans a3, (hb.cell (p := ⟨b, p, none⟩) a8).trans a4, (hb.cell (p := ⟨b, p + 1, none⟩) a8).trans a5, (hb.cell (p := ⟨b, p + 2, none⟩) a8).trans a6, Nat.lt_of_lt_of_le a7 hb.size, Nat.lt_of_lt_of_le a8 hb.size, below_trans a9 hb⟩

end Go.Proofs.YtnchgeiinkaefaaGreatDoor.Bill
end

section
/-
  Invoices that are right: impl.rowSums, impl.invoiceRight.
-/
namespace Go.Proofs.YtnchgeiinkaefaaGreatDoor.Bill
set_option linter.unusedVariables false
open Go.RowKit RegIn
open Evs (hide unhide below_trans below_drewN' ltS E ER)
open BRow (R R0 RR RC)
open Bills (I I0 IW IR)

/-- the sums of rows -/
def netS (l : List R) : Int := (l.map (·.2.1)).sum
def taxS (l : List R) : Int := (l.map (·.2.2)).sum
theorem sum_take (f : R → Int) (l : List R) (k : Nat) (h : k < l.length) : ((l.take (k + 1)).map f).sum = ((l.take k).map f).sum + f (l.getD k R0) := by
  have e : l.take (k + 1) = l.take k ++ [l.getD k R0] := by rw [List.take_add_one, List.getElem?_eq_getElem h]; simp [List.getD, h]
  rw [e, List.map_append, List.sum_append]
  simp
theorem sum_bd (f : R → Int) (M : Int) : ∀ (l : List R), (∀ x ∈ l, 0 ≤ f x ∧ f x ≤ M) → 0 ≤ (l.map f).sum ∧ (l.map f).sum ≤ l.length * M
  | [], _ => by simp
  | x :: l, h => by
    have := h x (List.mem_cons_self ..)
    have ih := sum_bd f M l (fun y hy => h y (List.mem_cons_of_mem _ hy))
    simp only [List.map_cons, List.sum_cons, List.length_cons]
    have e : ((l.length + 1 : Nat) : Int) * M = l.length * M + M := by rw [Int.natCast_add, Int.add_mul]; simp
    rw [e]
    omega
end Go.Proofs.YtnchgeiinkaefaaGreatDoor.Bill
end

section
/-
  Lists of events that are right: the loops of spec.UseOk.
-/
namespace Go.Proofs.YtnchgeiinkaefaaGreatDoor.Evs
set_option linter.unusedVariables false
open Go.RowKit RegIn

set_option maxHeartbeats 2000000 in
/-- spec.UseOk -/
theorem okS (v : Value) (l : List E) (w : World) (h : ER w v l) (hl : l.length ≤ 1048576) (hs : ∀ u ∈ l, u.1.size ≤ maxLen ∧ u.2.1.size ≤ maxLen) :
    Calls Tryz.prog 20 #[v] w fun e w' => e = .returned (.bool (okB l)) ∧ Below w.heap.size w w' := by
  by_cases h20 : 20 < l.length
  · rw [okB_long h20]
    obtain ⟨a, c, rfl⟩ := h.slice
    have y : (20 : Int) < l.length := by omega
    clear h
    go_enter Tryz.func20, Tryz.ntmps20
    go_wp2
    go_ret
    exact ⟨rfl, Below.refl _ _⟩
  have y : (l.length : Int) ≤ 20 := by omega
  rcases h with ⟨rfl, a, c, rfl⟩ | ⟨b, o, cap, rfl, hc⟩
  · go_enter Tryz.func20, Tryz.ntmps20
    go_wp2
    refine wp_loop_rounds 1 ?_
    rw [rounds_succ]
    go_wp2
    go_ret
    exact ⟨rfl, Below.refl _ _⟩
  · have HC := hide hc
    have hbs := hc.1
    clear hc
    generalize hr : okB l = r
    have HR := hide hr; clear hr
    go_enter Tryz.func20, Tryz.ntmps20
    go_wp2
    go_loopw [3] (fun i wr => ∃ k : Nat, k ≤ l.length ∧ i = .int .i64 k ∧ Hid (∀ j, j < k → badAt l j = false) ∧ Hid (Below w.heap.size w wr)) (fun i _ => l.length - (intOf i).toNat)
    case atStart => exact ⟨0, Nat.zero_le _, rfl, hide (fun j hj => by omega), hide (Below.refl _ _)⟩
    case round =>
      obtain ⟨k, hk, rfl, hd, hb⟩ := hrel
      by_cases hlt : k < l.length
      · obtain ⟨c0, c1, c2⟩ := ((unhide HC).kept (unhide hb)).2 k hlt
        obtain ⟨hsz, hmz⟩ : (l.getD k E0).1.size ≤ maxLen ∧ (l.getD k E0).2.1.size ≤ maxLen := hs _ (by simp [List.getD, hlt])
        have i1 : (0 : Int) ≤ (k : Int) := by omega
        have i2 : (k : Int) < (l.length : Int) := by omega
        have z1 : b < wr.heap.size := Nat.lt_of_lt_of_le hbs (unhide hb).size
        have HBA : Hid (badAt l k = (!rightE (l.getD k E0) || (decide (0 < k) && !ltS (l.getD (k - 1) E0).1 (l.getD k E0).1))) := hide rfl
        have k1 : k - 1 < l.length := by omega
        obtain ⟨p0, _, _⟩ := ((unhide HC).kept (unhide hb)).2 (k - 1) k1
        generalize hx : l.getD k E0 = x at *
        generalize hp : (l.getD (k - 1) E0).1 = t at *
        clear hx hp
        obtain ⟨s, m, q⟩ := x
        simp only at c0 c1 c2 hsz hmz
        have HCA : Hid (∀ W : World, Calls Tryz.prog 34 #[.agg #[.string s, .string m, .int .i64 q]] W fun x w' => x = .returned (.bool (rightE (s, m, q))) ∧ Below W.heap.size W w') := hide (fun W => rightS (s, m, q) W hsz hmz)
        generalize hR : rightE (s, m, q) = rt at *
        clear hR
        have HK : Hid (∀ w2 w3 : World, (w2.cell? ⟨b, o + k * 3, none⟩ = some (.string s) ∧ w2.cell? ⟨b, o + k * 3 + 1, none⟩ = some (.string m) ∧ w2.cell? ⟨b, o + k * 3 + 2, none⟩ = some (.int .i64 q) ∧ w2.cell? ⟨b, o + (k - 1) * 3, none⟩ = some (.string t) ∧ b < w2.heap.size ∧ b < w2.heap.size ∧ Below w.heap.size w w2) → Below w2.heap.size w2 w3 → (w3.cell? ⟨b, o + k * 3, none⟩ = some (.string s) ∧ w3.cell? ⟨b, o + k * 3 + 1, none⟩ = some (.string m) ∧ w3.cell? ⟨b, o + k * 3 + 2, none⟩ = some (.int .i64 q) ∧ w3.cell? ⟨b, o + (k - 1) * 3, none⟩ = some (.string t) ∧ b < w3.heap.size ∧ b < w3.heap.size ∧ Below w.heap.size w w3)) := hide (fun w2 w3 ⟨a1, a2, a3, a4, a5, a6, a7⟩ hb => ⟨(hb.cell (p := ⟨b, o + k * 3, none⟩) a6).trans a1, (hb.cell (p := ⟨b, o + k * 3 + 1, none⟩) a6).trans a2, (hb.cell (p := ⟨b, o + k * 3 + 2, none⟩) a6).trans a3, (hb.cell (p := ⟨b, o + (k - 1) * 3, none⟩) a6).trans a4, Nat.lt_of_lt_of_le a5 hb.size, Nat.lt_of_lt_of_le a6 hb.size, below_trans a7 hb⟩)
        generalize hS : (fun w2 : World => w2.cell? ⟨b, o + k * 3, none⟩ = some (.string s) ∧ w2.cell? ⟨b, o + k * 3 + 1, none⟩ = some (.string m) ∧ w2.cell? ⟨b, o + k * 3 + 2, none⟩ = some (.int .i64 q) ∧ w2.cell? ⟨b, o + (k - 1) * 3, none⟩ = some (.string t) ∧ b < w2.heap.size ∧ b < w2.heap.size ∧ Below w.heap.size w w2) = S
        have HSI : Hid (∀ w2 : World, (w2.cell? ⟨b, o + k * 3, none⟩ = some (.string s) ∧ w2.cell? ⟨b, o + k * 3 + 1, none⟩ = some (.string m) ∧ w2.cell? ⟨b, o + k * 3 + 2, none⟩ = some (.int .i64 q) ∧ w2.cell? ⟨b, o + (k - 1) * 3, none⟩ = some (.string t) ∧ b < w2.heap.size ∧ b < w2.heap.size ∧ Below w.heap.size w w2) → S w2) := hide (fun w2 h => by rw [← hS]; exact h)
        have HSE : Hid (∀ w2 : World, S w2 → (w2.cell? ⟨b, o + k * 3, none⟩ = some (.string s) ∧ w2.cell? ⟨b, o + k * 3 + 1, none⟩ = some (.string m) ∧ w2.cell? ⟨b, o + k * 3 + 2, none⟩ = some (.int .i64 q) ∧ w2.cell? ⟨b, o + (k - 1) * 3, none⟩ = some (.string t) ∧ b < w2.heap.size ∧ b < w2.heap.size ∧ Below w.heap.size w w2)) := hide (fun w2 h => by rw [← hS] at h; exact h)
        clear hS
        have g0 : ∀ g : In S, g.x.cell? ⟨b, o + k * 3, none⟩ = some (.string s) := fun g => (unhide HSE _ g.h).1
        have g1 : ∀ g : In S, g.x.cell? ⟨b, o + k * 3 + 1, none⟩ = some (.string m) := fun g => (unhide HSE _ g.h).2.1
        have g2 : ∀ g : In S, g.x.cell? ⟨b, o + k * 3 + 2, none⟩ = some (.int .i64 q) := fun g => (unhide HSE _ g.h).2.2.1
        have g3 : ∀ g : In S, g.x.cell? ⟨b, o + (k - 1) * 3, none⟩ = some (.string t) := fun g => (unhide HSE _ g.h).2.2.2.1
        have HCB : Hid (∀ g : In S, Calls Tryz.prog 34 #[.agg #[.string s, .string m, .int .i64 q]] g.x fun x w' => x = .returned (.bool rt) ∧ S w') := hide (fun g => (unhide HCA g.x).mono (fun x w' ⟨hx, hb⟩ => ⟨hx, unhide HSI _ (unhide HK _ _ (unhide HSE _ g.h) hb)⟩))
        clear HCA
        cases rt with
        | false =>
          have hr : r = false := (unhide HR).symm.trans (okB_bad hlt ((unhide HBA).trans (by simp)))
          subst hr
          go_wp2
          refine wp_region_in S (by kernel_rfl) (by kernel_rfl) (unhide HSI _ ⟨?_, ?_, ?_, ?_, ?_, ?_, ?_⟩) ?_
          · go_keep
          · go_keep
          · go_keep
          · go_keep
          · exact z1
          · exact z1
          · exact below_drewN' (unhide hb) 1
          intro hne
          repeat (go_big_quiet_step (exact call_in _ (unhide HCB _)))
          refine wpQuiet_nil ?_
          rintro _ ⟨g, rfl⟩
          have HG := hide (unhide HSE _ g.h).2.2.2.2.2.2
          go_wp2
          go_ret
          exact ⟨rfl, unhide HG⟩
        | true =>
          by_cases k0 : k = 0
          · have hd' : Hid (∀ j, j < k + 1 → badAt l j = false) := hide (bad_next (unhide hd) ((unhide HBA).trans (by simp [k0])))
            have kn : decide (0 < k) = false := by simp [k0]
            clear k0
            go_wp2
            refine wp_region_in S (by kernel_rfl) (by kernel_rfl) (unhide HSI _ ⟨?_, ?_, ?_, ?_, ?_, ?_, ?_⟩) ?_
            · go_keep
            · go_keep
            · go_keep
            · go_keep
            · exact z1
            · exact z1
            · exact below_drewN' (unhide hb) 1
            intro hne
            repeat (go_big_quiet_step (exact call_in _ (unhide HCB _)))
            refine wpQuiet_nil ?_
            rintro _ ⟨g, rfl⟩
            have HG := hide (unhide HSE _ g.h).2.2.2.2.2.2
            go_wp2
            exact ⟨⟨k + 1, by omega, by go_num, hd', HG⟩, by simp [intOf]; omega⟩
          · have kn : 0 < k := by omega
            have kk : (0 : Int) < (k : Int) := by omega
            have j1 : (0 : Int) ≤ (k : Int) - 1 := by omega
            have j2 : (k : Int) - 1 < (l.length : Int) := by omega
            have hwr : IntKind.i64.wrap ((k : Int) - 1) = (k : Int) - 1 := IntWalk.i64_in _ ⟨by omega, by omega⟩
            have htn : ((k : Int) - 1).toNat = k - 1 := by omega
            have hcmp := ltS_total t s
            cases hlx : ltS t s with
            | false =>
              have hr : r = false := (unhide HR).symm.trans (okB_bad hlt ((unhide HBA).trans (by simp [kn, hlx])))
              subst hr
              rw [hlx] at hcmp
              simp only [ltS, Bool.not_false] at hcmp
              go_wp2
              refine wp_region_in S (by kernel_rfl) (by kernel_rfl) (unhide HSI _ ⟨?_, ?_, ?_, ?_, ?_, ?_, ?_⟩) ?_
              · go_keep
              · go_keep
              · go_keep
              · go_keep
              · exact z1
              · exact z1
              · exact below_drewN' (unhide hb) 1
              intro hne
              repeat (go_big_quiet_step (exact call_in _ (unhide HCB _)))
              refine wpQuiet_nil ?_
              rintro _ ⟨g, rfl⟩
              have HG := hide (unhide HSE _ g.h).2.2.2.2.2.2
              go_wp2
              go_ret
              exact ⟨rfl, unhide HG⟩
            | true =>
              have hd' : Hid (∀ j, j < k + 1 → badAt l j = false) := hide (bad_next (unhide hd) ((unhide HBA).trans (by simp [kn, hlx])))
              rw [hlx] at hcmp
              simp only [ltS, Bool.not_true] at hcmp
              go_wp2
              refine wp_region_in S (by kernel_rfl) (by kernel_rfl) (unhide HSI _ ⟨?_, ?_, ?_, ?_, ?_, ?_, ?_⟩) ?_
              · go_keep
              · go_keep
              · go_keep
              · go_keep
              · exact z1
              · exact z1
              · exact below_drewN' (unhide hb) 1
              intro hne
              repeat (go_big_quiet_step (exact call_in _ (unhide HCB _)))
              refine wpQuiet_nil ?_
              rintro _ ⟨g, rfl⟩
              have HG := hide (unhide HSE _ g.h).2.2.2.2.2.2
              go_wp2
              exact ⟨⟨k + 1, by omega, by go_num, hd', HG⟩, by simp [intOf]; omega⟩
      · have hr : r = true := (unhide HR).symm.trans (okB_true (by omega) (fun j hj => unhide hd j (by omega)))
        subst hr
        go_wp2
        go_ret
        exact ⟨rfl, unhide hb⟩
end Go.Proofs.YtnchgeiinkaefaaGreatDoor.Evs
end

section
/-
  Events in a map by their Ids: impl.keepEvents.
-/
namespace Go.Proofs.YtnchgeiinkaefaaGreatDoor.Evs
set_option linter.unusedVariables false
open Go.RowKit Go.Maps MapM

/-- every value reads as itself -/
def RV (v : Value) : Option (DataW Value × List MemPlace) := some (.held v, [])
/-- the key of an event -/
abbrev keyE (e : E) : ByteArray := e.1
/-- the map of events as read -/
abbrev DE (l : List E) : DataW Value := DM keyE eV l
/-- block b is the map of the events l -/
def EM (W : World) (b : Nat) (l : List E) : Prop := W.ownsMap Tryz.prog 9 RV b l.length (DE l)

theorem law : Keyed Tryz.prog 9 := string_keyed Tryz.underlying9
theorem ltS_iff {s t : ByteArray} : ltS s t = true ↔ s.data.toList < t.data.toList := by
  rw [ltS, Proofs.bytesLess_eq, Lib.toList_data, Lib.toList_data, decide_eq_true_eq]

theorem okB_len {l : List E} (h : okB l = true) : l.length ≤ 20 := by
  rcases Nat.lt_or_ge 20 l.length with h' | h'
  · rw [okB_long h'] at h; simp at h
  · exact h'
theorem okB_at {l : List E} (h : okB l = true) {k : Nat} (hk : k < l.length) : badAt l k = false := by
  cases hb : badAt l k with
  | false => rfl
  | true => rw [okB_bad hk hb] at h; simp at h
theorem okB_right {l : List E} (h : okB l = true) {k : Nat} (hk : k < l.length) : rightE (l.getD k E0) = true := by
  have := okB_at h hk
  simp only [badAt, Bool.or_eq_false_iff, Bool.not_eq_false'] at this
  exact this.1
theorem EM.kept {W W' : World} {b : Nat} {l : List E} (h : EM W b l) (hb : Below W.heap.size W W') : EM W' b l :=
  World.ownsMap.kept (row := none) h ⟨hb.os, hb.tape, hb.output, hb.size, fun j hj _ => hb.block j hj⟩ (by simp)
theorem EM.lt {W : World} {b : Nat} {l : List E} (h : EM W b l) : b < W.heap.size := World.ownsMap.lt h

end Go.Proofs.YtnchgeiinkaefaaGreatDoor.Evs
end

section
/-
  Events in a map by their Ids: the methods 'put' and 'fix'.
-/
namespace Go.Proofs.YtnchgeiinkaefaaGreatDoor.Evs
set_option linter.unusedVariables false
open Go.RowKit Go.Maps MapM

/-- the event of that Id, and whether there is one -/
def lookE (l : List E) (s : ByteArray) : E × Bool := match l.find? (fun x => decide (x.1 = s)) with | some x => (x, true) | none => (E0, false)

theorem kb_inj {a : E} {s : ByteArray} (h : kb keyE a = s.data.toList) : a.1 = s := by
  have h1 : a.1.data = s.data := Array.toList_inj.1 h
  cases ha : a.1; cases s; rw [ha] at h1; simp only at h1; rw [h1]
theorem lookE_cases (l : List E) (s : ByteArray) : (∃ k, ∃ hk : k < l.length, l[k].1 = s ∧ lookE l s = (l[k], true)) ∨ ((∀ a ∈ l, a.1 ≠ s) ∧ lookE l s = (E0, false)) := by
  cases hf : l.find? (fun x => decide (x.1 = s)) with
  | some x =>
    refine .inl ?_
    have hm := List.mem_of_find?_eq_some hf
    have hx := List.find?_some hf
    obtain ⟨k, hk, rfl⟩ := List.getElem_of_mem hm
    exact ⟨k, hk, by simpa using hx, by unfold lookE; rw [hf]⟩
  | none =>
    refine .inr ⟨fun a ha he => ?_, by unfold lookE; rw [hf]⟩
    have := List.find?_eq_none.1 hf a ha
    simp [he] at this
theorem ext_toList {s t : ByteArray} (h : s.toList = t.toList) : s = t := by
  rw [Lib.toList_data, Lib.toList_data] at h
  cases s; cases t
  simp only at h
  rw [Array.toList_inj.1 h]
theorem look_DE {l : List E} (ha : Asc keyE l) (s : ByteArray) : (DE l).atKey (.string s.data.toList) (.held (eV E0)) = .held (eV (lookE l s).1) ∧ Maps.has (DE l) (.string s.data.toList) = (lookE l s).2 := by
  rcases lookE_cases l s with ⟨k, hk, rfl, e⟩ | ⟨hn, e⟩
  · rw [e]
    exact ⟨atKey_hit keyE eV _ l k hk ha, has_hit keyE eV l ⟨l[k], List.getElem_mem hk, rfl⟩⟩
  · rw [e]
    have : ∀ a ∈ l, kb keyE a ≠ s.data.toList := fun a hm he => hn a hm (kb_inj he)
    exact ⟨atKey_miss keyE eV _ l this, has_miss keyE eV l this⟩

theorem zeroE (w : World) : (zeroValue 59).run Tryz.prog w = .ok (eV E0) w := by kernel_rfl

theorem EM.grown {W W' : World} {b : Nat} {l : List E} {r : Option Nat} (h : EM W b l) (hg : W.grownBy W' r) (hne : some b ≠ r) : EM W' b l := World.ownsMap.kept h hg hne
theorem below_grown {a b : World} (h : Below a.heap.size a b) (r : Option Nat) : a.grownBy b r := ⟨h.os, h.tape, h.output, h.size, fun j hj _ => h.block j hj⟩
theorem grown_trans {a b c : World} {r : Option Nat} (h : a.grownBy b r) (k : b.grownBy c r) : a.grownBy c r :=
  ⟨k.os.trans h.os, k.tape.trans h.tape, k.output.trans h.output, Nat.le_trans h.size k.size, fun j hj hne => (k.block j (Nat.lt_of_lt_of_le hj h.size) hne).trans (h.block j hj hne)⟩

end Go.Proofs.YtnchgeiinkaefaaGreatDoor.Evs
end

section
/-
  Events in a map by their Ids: the method 'fix'.
-/
namespace Go.Proofs.YtnchgeiinkaefaaGreatDoor.Evs
set_option linter.unusedVariables false
open Go.RowKit Go.Maps MapM

theorem ownsMap_tight {W : World} {b n n' : Nat} {D : DataW Value} (h : W.ownsMap Tryz.prog 9 RV b n D) (hn : Maps.size D = n') : W.ownsMap Tryz.prog 9 RV b n' D := by
  obtain ⟨es, clock, hb, F, hs, rfl⟩ := h
  refine ⟨es, clock, hb, F, ?_, rfl⟩
  rw [← hn, Maps.size_eq, length_read]
  exact Nat.le_refl _

end Go.Proofs.YtnchgeiinkaefaaGreatDoor.Evs
end

section
/-
  Expressions as texts: plain facts on lists of bytes; no program in it.
-/
namespace Go.Proofs.YtnchgeiinkaefaaGreatDoor.Rule
set_option linter.unusedVariables false
open Kinds hiding hide unhide below_trans ext_toList

/-- the word of a kind, as bytes -/
def wordL (k : Int) : List UInt8 := (wordK k).data.toList
/-- steps as they are written -/
def wrT : List (Int × Int) → List UInt8
  | [] => []
  | t :: r => 32 :: (Lib.itoa t.1 ++ 58 :: (Lib.itoa t.2 ++ wrT r))
/-- what is written behind the kids -/
def wrO (k n : Int) (ts : List (Int × Int)) : List UInt8 := (if k = 6 then 32 :: Lib.itoa n else []) ++ wrT ts
mutual
/-- an expression as it is written -/
def wr : Ex → List UInt8
  | .mk k n m ks ts => if k = 1 then Lib.itoa n else if k = 2 then m.data.toList else 40 :: (wordL k ++ (wrS ks ++ (wrO k n ts ++ [41])))
/-- kids, each behind a space -/
def wrS : List Ex → List UInt8
  | [] => []
  | e :: es => 32 :: (wr e ++ wrS es)
end
theorem wrS_append : ∀ a b : List Ex, wrS (a ++ b) = wrS a ++ wrS b
  | [], b => by simp [wrS]
  | e :: es, b => by rw [List.cons_append, wrS, wrS, wrS_append es b]; simp
theorem wrS_take {l : List Ex} {k : Nat} (h : k < l.length) : wrS (l.take (k + 1)) = wrS (l.take k) ++ 32 :: wr (l.getD k E0) := by
  rw [take_at h, wrS_append]; simp [wrS]
theorem wrT_append : ∀ a b : List (Int × Int), wrT (a ++ b) = wrT a ++ wrT b
  | [], b => by simp [wrT]
  | e :: es, b => by rw [List.cons_append, wrT, wrT, wrT_append es b]; simp

/-! ### numbers -/
theorem decStep {m : Nat} (h : 9 < m) : Lib.decDigits m = Lib.decDigits (m / 10) ++ [UInt8.ofNat (48 + m % 10)] := by
  rw [Lib.decDigits, dif_neg (by omega)]
theorem digit_bd {k : Nat} (h : k < 10) : (UInt8.ofNat (48 + k)).toNat = 48 + k := by simp; omega
theorem digs (f : Nat) : ∀ m, m ≤ f → ∀ b ∈ Lib.decDigits m, 48 ≤ b.toNat ∧ b.toNat ≤ 57 := by
  induction f with
  | zero => intro m h b hb; obtain rfl : m = 0 := by omega
            rw [Lib.decDigits_one (by omega)] at hb
            obtain rfl := List.mem_singleton.1 hb
            rw [digit_bd (by omega)]; omega
  | succ f ih =>
    intro m h b hb
    by_cases h9 : 9 < m
    · rw [decStep h9] at hb
      rcases List.mem_append.1 hb with h' | h'
      · exact ih (m / 10) (by omega) b h'
      · obtain rfl := List.mem_singleton.1 h'
        rw [digit_bd (by omega)]; omega
    · rw [Lib.decDigits_one (by omega)] at hb
      obtain rfl := List.mem_singleton.1 hb
      rw [digit_bd (by omega)]; omega
theorem digs' (m : Nat) : ∀ b ∈ Lib.decDigits m, 48 ≤ b.toNat ∧ b.toNat ≤ 57 := digs m m (Nat.le_refl _)
/-- what a byte of a number can be -/
theorem itoa_bytes (n : Int) : ∀ b ∈ Lib.itoa n, b.toNat = 45 ∨ 48 ≤ b.toNat ∧ b.toNat ≤ 57 := by
  intro b hb
  unfold Lib.itoa at hb
  split at hb
  · rcases List.mem_cons.1 hb with rfl | h
    · exact .inl rfl
    · exact .inr (digs' _ b h)
  · exact .inr (digs' _ b hb)
theorem dd_ne (m : Nat) : Lib.decDigits m ≠ [] := by
  by_cases h9 : 9 < m
  · rw [decStep h9]; simp
  · rw [Lib.decDigits_one (by omega)]; simp
theorem itoa_ne (n : Int) : Lib.itoa n ≠ [] := by
  unfold Lib.itoa
  split
  · simp
  · exact dd_ne _
theorem ddLen (k : Nat) : ∀ m, m < 10 ^ (k + 1) → (Lib.decDigits m).length ≤ k + 1 := by
  induction k with
  | zero => intro n h; rw [Lib.decDigits_one (by omega)]; simp
  | succ k ih =>
    intro n h
    by_cases h9 : 9 < n
    · rw [decStep h9]
      have := ih (n / 10) (by rw [Nat.pow_succ] at h; omega)
      simp; omega
    · rw [Lib.decDigits_one (by omega)]; simp
theorem df_append (r : List UInt8) : ∀ (l : List UInt8) (acc : Nat), Lib.decFrom acc (l ++ r) = (Lib.decFrom acc l).bind fun m => Lib.decFrom m r
  | [], acc => by simp [Lib.decFrom]
  | b :: l, acc => by
    simp only [List.cons_append, Lib.decFrom]
    cases h : Lib.digitVal b with
    | none => simp
    | some d => simp [df_append r l]
theorem dv_of {k : Nat} (h : k < 10) : Lib.digitVal (UInt8.ofNat (48 + k)) = some k := by
  unfold Lib.digitVal
  rw [digit_bd h]
  simp; omega
theorem df_one (acc k : Nat) (h : k < 10) : Lib.decFrom acc [UInt8.ofNat (48 + k)] = some (acc * 10 + k) := by
  simp only [Lib.decFrom]
  rw [dv_of h]
theorem df_digits (f : Nat) : ∀ m, m ≤ f → Lib.decFrom 0 (Lib.decDigits m) = some m := by
  induction f with
  | zero => intro m h; obtain rfl : m = 0 := by omega
            rw [Lib.decDigits_one (by omega), df_one 0 0 (by omega)]
  | succ f ih =>
    intro m h
    by_cases h9 : 9 < m
    · rw [decStep h9, df_append, ih (m / 10) (by omega)]
      simp only [Option.bind_some]
      rw [df_one _ _ (by omega)]
      congr 1; omega
    · rw [Lib.decDigits_one (by omega), df_one 0 m (by omega)]; simp
/-- the first digit is no needless zero -/
theorem dd_head {m : Nat} (h : 1 ≤ m) : ∃ c r, Lib.decDigits m = c :: r ∧ c.toNat ≠ 48 := by
  have key : ∀ f m, m ≤ f → 1 ≤ m → ∃ c r, Lib.decDigits m = c :: r ∧ c.toNat ≠ 48 := by
    intro f
    induction f with
    | zero => intro m h1 h2; omega
    | succ f ih =>
      intro m h1 h2
      by_cases h9 : 9 < m
      · obtain ⟨c, r, e, hc⟩ := ih (m / 10) (by omega) (by omega)
        exact ⟨c, r ++ [UInt8.ofNat (48 + m % 10)], by rw [decStep h9, e]; rfl, hc⟩
      · exact ⟨UInt8.ofNat (48 + m), [], Lib.decDigits_one (by omega), by rw [digit_bd (by omega)]; omega⟩
  exact key m m (Nat.le_refl _) h
end Go.Proofs.YtnchgeiinkaefaaGreatDoor.Rule
end
