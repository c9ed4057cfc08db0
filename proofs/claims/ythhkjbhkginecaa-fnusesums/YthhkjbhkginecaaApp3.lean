/-
  'append(out, list...)' on a slice of events of the call's own.
-/
import Derived.Test.YthhkjbhkginecaaEvs
import Derived.Deep.AppendLies
import Derived.Deep.AppendSrc
import Derived.Deep.RegionHeldLaw
import Derived.OwnWalk
namespace Go.Proofs.Ythhkjbhkginecaa.Evs
set_option linter.unusedVariables false
open Go.RowKit

/-- three values each -/
abbrev flat3 (l : List E) : List Value := l.flatMap fun x => [.string x.1, .string x.2.1, .int .i64 x.2.2]
theorem flat3_len : ∀ l : List E, (flat3 l).length = l.length * 3
  | [] => rfl
  | x :: xs => by
    have := flat3_len xs
    simp only [flat3, List.flatMap_cons, List.length_append, List.length_cons, List.length_nil] at this ⊢
    omega
theorem flat3_get : ∀ (l : List E) (i : Nat) (x : E), l[i]? = some x → (flat3 l)[i * 3]? = some (.string x.1) ∧ (flat3 l)[i * 3 + 1]? = some (.string x.2.1) ∧ (flat3 l)[i * 3 + 2]? = some (.int .i64 x.2.2)
  | [], i, x, h => by simp at h
  | y :: ys, 0, x, h => by
    simp only [List.getElem?_cons_zero, Option.some.injEq] at h
    subst h
    simp [flat3]
  | y :: ys, i + 1, x, h => by
    have := flat3_get ys i x (by simpa using h)
    have e1 : (i + 1) * 3 = i * 3 + 1 + 1 + 1 := by omega
    rw [e1]
    simp only [flat3, List.flatMap_cons, List.cons_append, List.nil_append, List.getElem?_cons_succ]
    exact this
theorem flat3_one (l : List E) : ∀ u ∈ flat3 l, u.oneCell' = true := by
  intro u hu
  obtain ⟨x, _, hx⟩ := List.mem_flatMap.1 hu
  simp only [List.mem_cons, List.not_mem_nil, or_false] at hx
  rcases hx with rfl | rfl | rfl <;> rfl
theorem flat3_at {l : List E} {j : Nat} {u : Value} (h : (flat3 l)[j]? = some u) : j / 3 < l.length ∧ u = (if j % 3 = 0 then .string (l.getD (j / 3) E0).1 else if j % 3 = 1 then .string (l.getD (j / 3) E0).2.1 else .int .i64 (l.getD (j / 3) E0).2.2) := by
  have hj : j < (flat3 l).length := (List.getElem?_eq_some_iff.1 h).1
  rw [flat3_len] at hj
  have hlt : j / 3 < l.length := by omega
  refine ⟨hlt, ?_⟩
  have hx : l[j / 3]? = some (l.getD (j / 3) E0) := by rw [List.getElem?_eq_getElem hlt]; simp [List.getD, hlt]
  obtain ⟨h0, h1, h2⟩ := flat3_get l (j / 3) _ hx
  rcases (by omega : j % 3 = 0 ∨ j % 3 = 1 ∨ j % 3 = 2) with e | e | e
  · have ej : j = j / 3 * 3 := by omega
    rw [ej, h0] at h
    rw [if_pos e]
    exact (Option.some.inj h).symm
  · have ej : j = j / 3 * 3 + 1 := by omega
    rw [ej, h1] at h
    rw [if_neg (by omega), if_pos e]
    exact (Option.some.inj h).symm
  · have ej : j = j / 3 * 3 + 2 := by omega
    rw [ej, h2] at h
    rw [if_neg (by omega), if_neg (by omega)]
    exact (Option.some.inj h).symm

/-- the slice of the call's own in block b, not below B, holds l -/
def XO (W : World) (B b c : Nat) (l : List E) : Prop := W.ownsRow B 31 3 (.slice (some ⟨b, 0, none⟩) l.length c) l.length (flat3 l)

theorem XO.own {W : World} {B b c : Nat} {l : List E} (h : XO W B b c l) : B ≤ b ∧ EOwn W b l := by
  obtain ⟨_, h2⟩ := h
  rcases h2 with ⟨h2, _⟩ | ⟨g, cap, cur, hv, hb, hg, _, _, hc3, hc4⟩
  · simp at h2
  · simp only [Value.slice.injEq, Option.some.injEq, Addr.mk.injEq, and_true, true_and] at hv
    obtain ⟨rfl, rfl⟩ := hv
    refine ⟨hb, ⟨?_, fun i hi => ?_⟩, fun j => ?_⟩
    · refine Nat.lt_of_not_le fun hle => ?_
      rw [Array.getElem?_eq_none hle] at hg; simp at hg
    · have hx : l[i]? = some (l.getD i E0) := by rw [List.getElem?_eq_getElem hi]; simp [List.getD, hi]
      obtain ⟨h0, h1, h2⟩ := flat3_get l i _ hx
      rw [← hc4, List.getElem?_take_of_lt (by omega)] at h0 h1 h2
      simp only [World.cell?, hg]
      refine ⟨?_, ?_, ?_⟩
      · simpa using h0
      · simpa using h1
      · simpa using h2
    · simp only [World.frozen?, hg]; simp
theorem XO.cap {W : World} {B b c : Nat} {l : List E} (h : XO W B b c l) : l.length ≤ c := by
  rcases h.2 with ⟨h3, _⟩ | ⟨g, cap, cur, hv, _, _, h3, _⟩
  · simp at h3
  · simp only [Value.slice.injEq, Option.some.injEq, Addr.mk.injEq, and_true, true_and] at hv
    omega
theorem XO.en {W : World} {B b c : Nat} {l : List E} (h : XO W B b c l) : EN B W (.slice (some ⟨b, 0, none⟩) l.length c) l := .inr ⟨b, c, rfl, ⟨h.own.1, h.cap⟩, h.own.2⟩
theorem XO.kept {W W' : World} {B b c : Nat} {l : List E} {r : Option Nat} (h : XO W B b c l) (hg : W.grownBy W' r) (hne : some b ≠ r) : XO W' B b c l :=
  World.ownsRow.kept h hg (.inr (by simpa [Value.ownBlock] using hne))
theorem XO.made (w : World) (B : Nat) (hB : B ≤ w.heap.size) (t : TypeId) (ht : t = 31) : XO (w.alloc (.cells #[] t)) B w.heap.size 0 [] := by
  subst ht
  refine ⟨rfl, .inr ⟨w.heap.size, 0, #[], rfl, hB, (MapKept.heap_alloc w _).1, by simp, by simp, by simp, by simp⟩⟩

theorem src_of {w : World} {xv : Value} {l2 : List E} (hx : ER w xv l2) (i : TypeInfo) (hs : i.size = 3) : Src Try.prog i.size 29 xv l2.length (flat3 l2) w := by
  rw [hs]
  rcases hx with ⟨rfl, a, c, rfl⟩ | ⟨b2, o2, cap2, rfl, hc⟩
  · cases a with
    | none => exact Src.ofNil w Try.underlying29 c
    | some ad => exact Src.ofSlice w Try.underlying29 ad 0 c [] rfl (fun j u hj => by simp at hj) (fun u hu => by simp at hu)
  · refine Src.ofSlice w Try.underlying29 ⟨b2, o2, none⟩ l2.length cap2 (flat3 l2) (flat3_len l2) (fun j u hj => ?_) (flat3_one l2)
    obtain ⟨hlt, rfl⟩ := flat3_at hj
    obtain ⟨c0, c1, c2⟩ := hc.2 (j / 3) hlt
    rw [Addr.add_lit]
    rcases (by omega : j % 3 = 0 ∨ j % 3 = 1 ∨ j % 3 = 2) with e | e | e
    · rw [if_pos e]
      have ej : o2 + j = o2 + j / 3 * 3 := by omega
      rw [ej]; exact c0
    · rw [if_neg (by omega), if_pos e]
      have ej : o2 + j = o2 + j / 3 * 3 + 1 := by omega
      rw [ej]; exact c1
    · rw [if_neg (by omega), if_neg (by omega)]
      have ej : o2 + j = o2 + j / 3 * 3 + 2 := by omega
      rw [ej]; exact c2

theorem run_appE (w : World) (ty : TypeId) (B b c n : Nat) (l l2 : List E) (xv : Value) (hn : l.length = n) (hown : XO w B b c l) (hx : ER w xv l2) (hl : l.length + l2.length ≤ 3000000) (hB : B ≤ w.heap.size) :
    ∃ b' c' w', (Builtin.append_ #[29, 29] ty #[.slice (some ⟨b, 0, none⟩) n c, xv]).run Try.prog w = .ok (.slice (some ⟨b', 0, none⟩) (n + l2.length) c') w' ∧ XO w' B b' c' (l ++ l2) ∧ w.grownBy w' (some b) ∧ (b = b' ∨ b' = w.heap.size) ∧ b' < w'.heap.size := by
  subst hn
  obtain ⟨i, hi, h2⟩ := Option.map_eq_some_iff.1 infoE
  simp only [Prod.mk.injEq] at h2
  obtain ⟨hz, hs, hb⟩ := h2
  by_cases h0 : l2 = []
  · subst h0
    have hsrc := src_of hx i hs
    obtain ⟨hB', hE⟩ := hown.own
    have hcap : l.length ≤ c := by
      rcases hown.2 with ⟨h3, _⟩ | ⟨g, cap, cur, hv, _, _, h3, _⟩
      · simp at h3
      · simp only [Value.slice.injEq, Option.some.injEq, Addr.mk.injEq, and_true, true_and] at hv
        omega
    have := run_append_room_src (P := Try.prog) w 29 29 ty 31 i Try.underlying29 hi b 0 l.length c xv 0 [] hsrc (by omega) (fun j hj => by simp at hj) (fun j hj => by simp at hj)
    refine ⟨b, c, w, this, by rw [List.append_nil]; exact hown, World.grownBy.refl _ _, .inl rfl, hE.1.1⟩
  · rcases hx with ⟨h0', _⟩ | ⟨b2, o2, cap2, rfl, hc⟩
    · exact absurd h0' h0
    have hpos : 0 < l2.length := List.length_pos_iff.2 h0
    have hER : ER w (.slice (some ⟨b2, o2, none⟩) l2.length cap2) l2 := .inr ⟨b2, o2, cap2, rfl, hc⟩
    have hnews : ∀ j u, (flat3 l2)[j]? = some u → w.cell? ((⟨b2, o2, none⟩ : Addr).add j) = some u := fun j u hj => by
      obtain ⟨hlt, rfl⟩ := flat3_at hj
      obtain ⟨c0, c1, c2⟩ := hc.2 (j / 3) hlt
      rw [Addr.add_lit]
      rcases (by omega : j % 3 = 0 ∨ j % 3 = 1 ∨ j % 3 = 2) with e | e | e
      · rw [if_pos e]
        have ej : o2 + j = o2 + j / 3 * 3 := by omega
        rw [ej]; exact c0
      · rw [if_neg (by omega), if_pos e]
        have ej : o2 + j = o2 + j / 3 * 3 + 1 := by omega
        rw [ej]; exact c1
      · rw [if_neg (by omega), if_neg (by omega)]
        have ej : o2 + j = o2 + j / 3 * 3 + 2 := by omega
        rw [ej]; exact c2
    obtain ⟨g, cap, w', hr, g2, g3, g4, g5⟩ := run_append_lies (P := Try.prog) w 29 ty B 31 i _ 3 40 Try.underlying29 hi hz hs hb rfl (by omega) _ l.length (flat3 l) hown ⟨b2, o2, none⟩ l2.length cap2 (flat3 l2) (flat3_len l2) hnews (flat3_one l2) hpos (by unfold maxLen; omega) (by omega) hB _ rfl
    refine ⟨g, cap, w', hr, ?_, g3, ?_, g5⟩
    · unfold XO
      rw [List.length_append, flat3, List.flatMap_append]
      exact g2
    · rcases g4 with g4 | g4
      · exact .inl (by simpa [Value.ownBlock] using g4)
      · exact .inr g4

section
variable {ops : Array Oper} {o : Oper} {a : Act} {K : Act → World → Prop} {Q : Exit → Act → World → Prop} {P0 : Prop}
theorem wp_appE (w : World) (s x : Operand) (ho : o.op = .call { callee := .builtin .append, args := #[s, x], argTypes := #[29, 29] })
    (B b c n : Nat) (l l2 : List E) (xv : Value) (hn : l.length = n) (hs : a.eval s = .slice (some ⟨b, 0, none⟩) n c) (hown : XO w B b c l) (hxv : a.eval x = xv) (hx : ER w xv l2) (hl : l.length + l2.length ≤ 3000000) (hB : B ≤ w.heap.size)
    (h : ∀ b' c' w', XO w' B b' c' (l ++ l2) → w.grownBy w' (some b) → (b = b' ∨ b' = w.heap.size) → b' < w'.heap.size → K (a.put o.dst (.slice (some ⟨b', 0, none⟩) (n + l2.length) c')) w') : o.wp Try.prog a w K Q := by
  obtain ⟨b', c', w', hr, h2, h3, h4, h5⟩ := run_appE w o.type B b c n l l2 xv hn hown hx hl hB
  unfold Oper.wp execOp
  simp only [ho, resolve, invoke, builtin, Sem.run_bind, Sem.run_pure, Result.andThen_ok, List.map_toArray, List.map_cons, List.map_nil, hs, hxv, hr]
  exact h b' c' w' h2 h3 h4 h5
theorem listAppE (w : World) {rest : List Oper} (hgd : o.guard = none) (s x : Operand) (ho : o.op = .call { callee := .builtin .append, args := #[s, x], argTypes := #[29, 29] })
    (B b c n : Nat) (l l2 : List E) (xv : Value) (hn : l.length = n) (hs : a.eval s = .slice (some ⟨b, 0, none⟩) n c) (hown : XO w B b c l) (hxv : a.eval x = xv) (hx : ER w xv l2) (hl : l.length + l2.length ≤ 3000000) (hB : B ≤ w.heap.size)
    (h : ∀ b' c' w', XO w' B b' c' (l ++ l2) → w.grownBy w' (some b) → (b = b' ∨ b' = w.heap.size) → b' < w'.heap.size → wpList Try.prog ops Q rest (a.put o.dst (.slice (some ⟨b', 0, none⟩) (n + l2.length) c')) w') :
    wpList Try.prog ops Q (o :: rest) a w :=
  wpList_plain hgd fun _ hK => wp_appE w s x ho B b c n l l2 xv hn hs hown hxv hx hl hB fun b' c' w' h2 h3 h4 h5 => hK _ _ (h b' c' w' h2 h3 h4 h5)
theorem stepAppE (w : World) (hgd : o.guard = none) (s x : Operand) (ho : o.op = .call { callee := .builtin .append, args := #[s, x], argTypes := #[29, 29] })
    (B b c n : Nat) (l l2 : List E) (xv : Value) (hn : l.length = n) (hs : a.eval s = .slice (some ⟨b, 0, none⟩) n c) (hown : XO w B b c l) (hxv : a.eval x = xv) (hx : ER w xv l2) (hl : l.length + l2.length ≤ 3000000) (hB : B ≤ w.heap.size)
    (h : ∀ b' c' w', XO w' B b' c' (l ++ l2) → w.grownBy w' (some b) → (b = b' ∨ b' = w.heap.size) → b' < w'.heap.size → K (a.put o.dst (.slice (some ⟨b', 0, none⟩) (n + l2.length) c')) w') :
    if Region.wanted o (yielded ops a.tmps) = true then Oper.wp Try.prog o a w K Q else P0 := by
  have hw : Region.wanted o (yielded ops a.tmps) = true := by simp [Region.wanted, hgd]
  rw [if_pos hw]
  exact wp_appE w s x ho B b c n l l2 xv hn hs hown hxv hx hl hB h
end
end Go.Proofs.Ythhkjbhkginecaa.Evs
