/-
  'out = append(out, n)' on a slice of ints of the call's own, in a plain region and in one that draws its order.
-/
import Derived.Test.YtpamdnkngedmaaaDoorInts
import Derived.Deep.AppendLies
import Derived.Deep.RegionHeldLaw
import Derived.OwnWalk
namespace Go.Proofs.YtpamdnkngedmaaaDoor.Ints
set_option linter.unusedVariables false
open Go.RowKit

theorem infoEx : ∃ i, Tryd.prog.info? 3 = some i ∧ i.zero = some (.int .i64 0) ∧ i.size = 1 ∧ i.bytes = 8 := by
  have h := info
  obtain ⟨i, hi, h2⟩ := Option.map_eq_some_iff.1 h
  simp only [Prod.mk.injEq] at h2
  exact ⟨i, hi, h2.1, h2.2.1, h2.2.2⟩

/-- the numbers of a row, as values -/
abbrev vals (l : List Int) : List Value := l.map (Value.int .i64)

/-- the slice of the call's own in block g holds the numbers l -/
def Own (W : World) (B g cap : Nat) (l : List Int) : Prop := W.ownsRow B 3 1 (.slice (some ⟨g, 0, none⟩) l.length cap) l.length (vals l)

section
variable {ops : Array Oper} {o : Oper} {a : Act} {K : Act → World → Prop} {Q : Exit → Act → World → Prop} {E : Prop}

theorem news (w : World) (N : Nat) (q : Int) (hN : w.heap[N]? = some (.cells #[.int .i64 q] 3 (0, 0))) : ∀ j u, (vals [q])[j]? = some u → w.cell? ((⟨N, 0, none⟩ : Addr).add j) = some u :=
  World.news_of_block hN

theorem stepApp (w : World) (hgd : o.guard = none) (s x : Operand) (ho : o.op = .call { callee := .builtin .append, args := #[s, x], argTypes := #[26, 26] })
    (B g c N n : Nat) (l : List Int) (q : Int) (hn : l.length = n) (hs : a.eval s = .slice (some ⟨g, 0, none⟩) n c) (hown : Own w B g c l) (hx : a.eval x = .slice (some ⟨N, 0, none⟩) 1 1) (hN : w.heap[N]? = some (.cells #[.int .i64 q] 3 (0, 0)))
    (hl : l.length ≤ 1000000) (hB : B ≤ w.heap.size)
    (h : ∀ g' c' w', Own w' B g' c' (l ++ [q]) → w.grownBy w' (some g) → (g = g' ∨ g' = w.heap.size) → g' < w'.heap.size → K (a.put o.dst (.slice (some ⟨g', 0, none⟩) (n + 1) c')) w') :
    if Region.wanted o (yielded ops a.tmps) = true then Oper.wp Tryd.prog o a w K Q else E := by
  subst hn
  obtain ⟨infoInt, hinfo, hzero, hsize, hbytes⟩ := infoEx
  exact step_append_lies (P := Tryd.prog) w hgd s x 26 ho B 3 infoInt (.int .i64 0) 1 8 Tryd.underlying26 hinfo hzero hsize hbytes rfl (by omega) _ l.length (vals l) hs hown ⟨N, 0, none⟩ 1 1 (vals [q]) hx rfl (news w N q hN) (by simp [Value.oneCell']) (by omega) (by unfold maxLen; omega) (by omega) hB _ rfl
    (fun g' c' w' h1 h2 h3 h4 => h g' c' w' (by unfold Own; simpa using h1) h2 (by rcases h3 with h3 | h3; exact .inl (by simpa [Value.ownBlock] using h3); exact .inr h3) h4)

theorem listApp (w : World) {rest : List Oper} (hgd : o.guard = none) (s x : Operand) (ho : o.op = .call { callee := .builtin .append, args := #[s, x], argTypes := #[26, 26] })
    (B g c N n : Nat) (l : List Int) (q : Int) (hn : l.length = n) (hs : a.eval s = .slice (some ⟨g, 0, none⟩) n c) (hown : Own w B g c l) (hx : a.eval x = .slice (some ⟨N, 0, none⟩) 1 1) (hN : w.heap[N]? = some (.cells #[.int .i64 q] 3 (0, 0)))
    (hl : l.length ≤ 1000000) (hB : B ≤ w.heap.size)
    (h : ∀ g' c' w', Own w' B g' c' (l ++ [q]) → w.grownBy w' (some g) → (g = g' ∨ g' = w.heap.size) → g' < w'.heap.size → wpList Tryd.prog ops Q rest (a.put o.dst (.slice (some ⟨g', 0, none⟩) (n + 1) c')) w') :
    wpList Tryd.prog ops Q (o :: rest) a w := by
  subst hn
  obtain ⟨infoInt, hinfo, hzero, hsize, hbytes⟩ := infoEx
  exact wpList_append_lies (P := Tryd.prog) w hgd s x 26 ho B 3 infoInt (.int .i64 0) 1 8 Tryd.underlying26 hinfo hzero hsize hbytes rfl (by omega) _ l.length (vals l) hs hown ⟨N, 0, none⟩ 1 1 (vals [q]) hx rfl (news w N q hN) (by simp [Value.oneCell']) (by omega) (by unfold maxLen; omega) (by omega) hB _ rfl
    (fun g' c' w' h1 h2 h3 h4 => h g' c' w' (by unfold Own; simpa using h1) h2 (by rcases h3 with h3 | h3; exact .inl (by simpa [Value.ownBlock] using h3); exact .inr h3) h4)
end

theorem Own.kept {W W' : World} {B g c : Nat} {l : List Int} {r : Option Nat} (h : Own W B g c l) (hg : W.grownBy W' r) (hne : some g ≠ r) : Own W' B g c l :=
  World.ownsRow.kept h hg (.inr (by simpa [Value.ownBlock] using hne))
theorem Own.lt {W : World} {B g c : Nat} {l : List Int} (h : Own W B g c l) : B ≤ g ∧ g < W.heap.size := World.ownsRow.lt h g rfl
/-- a new slice without elements -/
theorem Own.new (w : World) (B : Nat) (hB : B ≤ w.heap.size) : Own (w.alloc (.cells #[] 3)) B w.heap.size 0 [] :=
  ⟨by simp, .inr ⟨w.heap.size, 0, #[], rfl, hB, (MapKept.heap_alloc w _).1, by simp, by unfold maxLen; omega, by simp, by simp⟩⟩
theorem Own.cells {W : World} {B g c : Nat} {l : List Int} (h : Own W B g c l) : Cells W g 0 l := by
  refine ⟨h.lt.2, fun i hi => ?_⟩
  have h1 := World.ownsRow.cells h rfl i (.int .i64 (l.getD i 0)) (by simp [vals, List.getD, hi])
  rw [Addr.add_lit] at h1
  refine ⟨h1, ?_⟩
  rcases h.2 with ⟨h2, _⟩ | ⟨g', cap, cur, h2, _, h3, _⟩
  · cases h2
  · simp only [Value.slice.injEq, Option.some.injEq, Addr.mk.injEq, and_true, true_and] at h2
    obtain ⟨rfl, _⟩ := h2
    simp only [World.frozen?]
    rw [h3]; simp
end Go.Proofs.YtpamdnkngedmaaaDoor.Ints
