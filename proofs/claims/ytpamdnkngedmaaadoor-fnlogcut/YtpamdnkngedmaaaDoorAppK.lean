/-
  Append of one int to a slice of the call's own: at a step of a region that draws its order, with what was there kept to the letter; and inside a fence.
-/
import Derived.Test.YtpamdnkngedmaaaDoorApp
import Derived.ArgAppend
import Derived.OwnWalkIn
import Derived.TacticsInMore
namespace Go.Proofs.YtpamdnkngedmaaaDoor.Ints
set_option linter.unusedVariables false
open Go.RowKit

attribute [local go_sem] Oper.semAt_some

theorem Own.at_ {W : World} {B g c : Nat} {l : List Int} (h : Own W B g c l) {j : Nat} (hj : j < l.length) : W.cell? ⟨g, j, none⟩ = some (.int .i64 (l.getD j 0)) := by
  have := ((h.cells).2 j hj).1
  rwa [Nat.zero_add] at this
theorem Own.below {W W' : World} {B g c : Nat} {l : List Int} (h : Own W B g c l) (hb : Below W.heap.size W W') : Own W' B g c l :=
  h.kept (r := none) ⟨hb.os, hb.tape, hb.output, hb.size, fun j hj _ => hb.block j hj⟩ (by simp)

/-- what lay in the old row lies there still -/
theorem app_old (w : World) (ty : TypeId) (B g c N : Nat) (l : List Int) (q : Int) (hown : Own w B g c l) (hN : w.heap[N]? = some (.cells #[.int .i64 q] 3 (0, 0))) (hl : l.length ≤ 1000000) (hB : B ≤ w.heap.size) :
    ∃ g' c' w', (Builtin.append_ #[26, 26] ty #[.slice (some ⟨g, 0, none⟩) l.length c, .slice (some ⟨N, 0, none⟩) 1 1]).run Tryd.prog w = .ok (.slice (some ⟨g', 0, none⟩) (l.length + 1) c') w' ∧
      Own w' B g' c' (l ++ [q]) ∧ w.grownBy w' (some g) ∧ (g = g' ∨ g' = w.heap.size) ∧ g' < w'.heap.size ∧ ∀ j, j < l.length → w'.cell? ⟨g, j, none⟩ = some (.int .i64 (l.getD j 0)) := by
  obtain ⟨i, hinfo, hzero, hsize, hbytes⟩ := infoEx
  obtain ⟨g', c', w', hr, h1, h2, h3, h4⟩ := run_append_lies (P := Tryd.prog) w 26 ty B 3 i (.int .i64 0) 1 8 Tryd.underlying26 hinfo hzero hsize hbytes rfl (by omega) (.slice (some ⟨g, 0, none⟩) l.length c) l.length (vals l) hown ⟨N, 0, none⟩ 1 1 (vals [q]) rfl (news w N q hN) (by simp [Value.oneCell']) (by omega) (by unfold maxLen; omega) (by omega) hB _ rfl
  have h3' : g = g' ∨ g' = w.heap.size := by rcases h3 with h3 | h3; exact .inl (by simpa [Value.ownBlock] using h3); exact .inr h3
  have hO : Own w' B g' c' (l ++ [q]) := by unfold Own; simpa using h1
  refine ⟨g', c', w', hr, hO, by simpa [Value.ownBlock] using h2, h3', h4, fun j hj => ?_⟩
  by_cases e : g = g'
  · subst e
    have := hO.at_ (j := j) (by simp; omega)
    rw [this]
    simp [List.getD, List.getElem?_append_left hj]
  · by_cases hroom : l.length + 1 ≤ c
    · exfalso
      obtain ⟨gg, cap, cur, he, hb, hblk, hc1, hc2, hc3, hc4⟩ : ∃ gg cap cur, (Value.slice (some ⟨g, 0, none⟩) l.length c) = .slice (some ⟨gg, 0, none⟩) l.length cap ∧ B ≤ gg ∧ w.heap[gg]? = some (.cells cur 3 (0, 0)) ∧ l.length ≤ cap ∧ cap ≤ maxLen ∧ cur.size = cap * 1 ∧ cur.toList.take (l.length * 1) = vals l := by
        rcases hown.2 with ⟨h, _⟩ | ⟨gg, cap, cur, he, hb, hblk, hc1, hc2, hc3, hc4⟩
        · cases h
        · exact ⟨gg, cap, cur, he, hb, hblk, hc1, hc2, hc3, hc4⟩
      simp only [Value.slice.injEq, Option.some.injEq, Addr.mk.injEq, and_true, true_and] at he
      obtain ⟨rfl, rfl⟩ := he
      have hr2 := run_append_room (P := Tryd.prog) w 26 ty 3 i Tryd.underlying26 hinfo g l.length c cur hblk ⟨N, 0, none⟩ 1 1 (vals [q]) (by rw [hsize]; rfl) (news w N q hN) (by simp [Value.oneCell']) hroom (by rw [hsize]; simp; omega)
      rw [hr] at hr2
      simp only [Result.ok.injEq, Value.slice.injEq, Option.some.injEq, Addr.mk.injEq, and_true] at hr2
      exact e hr2.1.1.symm
    · obtain ⟨v2, w2, hr2, _, hg2⟩ := run_append_arg_grows (P := Tryd.prog) w 26 ty 3 i (.int .i64 0) 1 8 Tryd.underlying26 hinfo hzero hsize hbytes rfl (by omega) ⟨g, 0, none⟩ l.length c (vals l) (by simp)
        (fun j u hu => World.ownsRow.cells hown rfl j u hu) ⟨N, 0, none⟩ 1 1 (vals [q]) rfl (news w N q hN) (by omega) (by unfold maxLen; omega) (by omega)
      rw [hr] at hr2
      simp only [Result.ok.injEq] at hr2
      obtain ⟨_, rfl⟩ := hr2
      exact (World.cell?_of_block (hg2.block g hown.lt.2 (by simp))).trans (hown.at_ hj)

section
variable {ops : Array Oper} {o : Oper} {a : Act} {K : Act → World → Prop} {Q : Exit → Act → World → Prop} {E : Prop}
theorem stepAppK (w : World) (hgd : o.guard = none) (s x : Operand) (ho : o.op = .call { callee := .builtin .append, args := #[s, x], argTypes := #[26, 26] })
    (B g c N n : Nat) (l : List Int) (q : Int) (hn : l.length = n) (hs : a.eval s = .slice (some ⟨g, 0, none⟩) n c) (hown : Own w B g c l) (hx : a.eval x = .slice (some ⟨N, 0, none⟩) 1 1) (hN : w.heap[N]? = some (.cells #[.int .i64 q] 3 (0, 0)))
    (hl : l.length ≤ 1000000) (hB : B ≤ w.heap.size)
    (h : ∀ g' c' w', Own w' B g' c' (l ++ [q]) → w.grownBy w' (some g) → (g = g' ∨ g' = w.heap.size) → g' < w'.heap.size → (∀ j, j < l.length → w'.cell? ⟨g, j, none⟩ = some (.int .i64 (l.getD j 0))) → K (a.put o.dst (.slice (some ⟨g', 0, none⟩) (n + 1) c')) w') :
    if Region.wanted o (yielded ops a.tmps) = true then Oper.wp Tryd.prog o a w K Q else E := by
  subst hn
  have hw : Region.wanted o (yielded ops a.tmps) = true := by simp [Region.wanted, hgd]
  rw [if_pos hw]
  obtain ⟨g', c', w', hr, h1, h2, h3, h4, h5⟩ := app_old w o.type B g c N l q hown hN hl hB
  unfold Oper.wp execOp
  simp only [ho, resolve, invoke, builtin, Sem.run_bind, Sem.run_pure, Result.andThen_ok, List.map_toArray, List.map_cons, List.map_nil, hs, hx, hr]
  exact h g' c' w' h1 h2 h3 h4 h5
end

/-- a slice of ints of the call's own, nil or not -/
def OwnN (W : World) (B : Nat) (v : Value) (l : List Int) : Prop := W.ownsRow B 3 1 v l.length (vals l)
theorem OwnN.kept {W W' : World} {B : Nat} {v : Value} {l : List Int} (h : OwnN W B v l) (hg : W.grownBy W' none) : OwnN W' B v l :=
  World.ownsRow.kept h hg (by cases e : v.ownBlock with | none => exact .inl rfl | some b => exact .inr (by simp))
theorem OwnN.nil (W : World) (B : Nat) : OwnN W B (.slice none 0 0) [] := ⟨by simp, .inl ⟨rfl, rfl⟩⟩

/-- one more, inside a fence -/
theorem wpListIn_appN {F : Fence} {nF : Nat} {w : World} {ops : Array Oper} {rest : List Oper} {o : Oper} {a : Act} {Q : Exit → Act → World → Prop} (hgd : o.guard = none) (s x : Operand)
    (ho : o.op = .call { callee := .builtin .append, args := #[s, x], argTypes := #[26, 26] }) (B : Nat) (v : Value) (l : List Int) (q : Int) (N : Nat) (hs : a.eval s = v) (hown : OwnN w B v l) (hx : a.eval x = .slice (some ⟨N, 0, none⟩) 1 1) (hN : w.heap[N]? = some (.cells #[.int .i64 q] 3 (0, 0)))
    (hl : l.length ≤ 1000000) (hB : B ≤ w.heap.size)
    (h : ∀ g c w', OwnN w' B (.slice (some ⟨g, 0, none⟩) (l.length + 1) c) (l ++ [q]) → w.grownBy w' v.ownBlock → g < w'.heap.size → wpListIn F nF Tryd.prog ops Q rest (a.put o.dst (.slice (some ⟨g, 0, none⟩) (l.length + 1) c)) w') : wpListIn F nF Tryd.prog ops Q (o :: rest) a w := by
  obtain ⟨infoInt, hinfo, hzero, hsize, hbytes⟩ := infoEx
  obtain ⟨g, c, w', hr, h1, h2, _, h4⟩ := run_append_lies (P := Tryd.prog) w 26 o.type B 3 infoInt (.int .i64 0) 1 8 Tryd.underlying26 hinfo hzero hsize hbytes rfl (by omega) v l.length (vals l) hown ⟨N, 0, none⟩ 1 1 (vals [q]) rfl (news w N q hN) (by simp [Value.oneCell']) (by omega) (by unfold maxLen; omega) (by omega) hB _ rfl
  refine wpListIn_plain hgd fun K hK => ?_
  unfold Oper.wpIn
  refine ⟨by simp [Oper.about, ho, resolve, Target.leads, Sem.run_pure], ?_⟩
  rw [Oper.semAt_plain F _ _ (by rw [ho]; intro c hc'; cases hc')]
  simp [execOp, ho, resolve, invoke, builtin, hs, hx, hr, Result.andThen]
  exact hK _ _ (h g c w' (by unfold OwnN; simpa using h1) h2 h4)
end Go.Proofs.YtpamdnkngedmaaaDoor.Ints
