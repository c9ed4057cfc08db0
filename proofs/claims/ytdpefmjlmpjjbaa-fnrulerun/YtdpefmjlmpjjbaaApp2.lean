/-
  'out = append(out, T{..})' on a slice of structs of two cells of the call's own.
-/
import Derived.Test.YtdpefmjlmpjjbaaProg
import Derived.WalkKit
import Derived.WalkLawsBesides
import Derived.Below
import Derived.Deep.OwnRows
import Derived.Deep.AppendLies
import Derived.Deep.RegionHeldLaw
import Derived.OwnWalk
namespace Go.Proofs.Ytdpefmjlmpjjbaa.App2
set_option linter.unusedVariables false
open Go.RowKit

/-- two values each -/
abbrev flat {α : Type} (f g : α → Value) (l : List α) : List Value := l.flatMap fun x => [f x, g x]
theorem flat_len {α : Type} (f g : α → Value) : ∀ l : List α, (flat f g l).length = l.length * 2
  | [] => rfl
  | x :: xs => by
    have := flat_len f g xs
    simp only [flat, List.flatMap_cons, List.length_append, List.length_cons, List.length_nil] at this ⊢
    omega
theorem flat_get {α : Type} (f g : α → Value) : ∀ (l : List α) (i : Nat) (x : α), l[i]? = some x → (flat f g l)[i * 2]? = some (f x) ∧ (flat f g l)[i * 2 + 1]? = some (g x)
  | [], i, x, h => by simp at h
  | y :: ys, 0, x, h => by
    simp only [List.getElem?_cons_zero, Option.some.injEq] at h
    subst h
    simp [flat]
  | y :: ys, i + 1, x, h => by
    have := flat_get f g ys i x (by simpa using h)
    have e1 : (i + 1) * 2 = i * 2 + 1 + 1 := by omega
    have e2 : (i + 1) * 2 + 1 = i * 2 + 1 + 1 + 1 := by omega
    rw [e1]
    simp only [flat, List.flatMap_cons, List.cons_append, List.nil_append, List.getElem?_cons_succ]
    exact this

/-- the slice of the call's own in block b holds l -/
def Own2 {α : Type} (e : TypeId) (f g : α → Value) (W : World) (B b cap : Nat) (l : List α) : Prop := W.ownsRow B e 2 (.slice (some ⟨b, 0, none⟩) l.length cap) l.length (flat f g l)

section
variable {ops : Array Oper} {o : Oper} {a : Act} {K : Act → World → Prop} {Q : Exit → Act → World → Prop} {E : Prop} {α : Type} {e t : TypeId} {f g : α → Value} {i : TypeInfo} {z : Value} {bytes : Nat}

theorem listApp2 (w : World) {rest : List Oper} (ht : Try.prog.underlying t = some (.slice e)) (hinfo : Try.prog.info? e = some i) (hzero : i.zero = some z) (hsize : i.size = 2) (hbytes : i.bytes = bytes) (hz : z.cells.size = 2) (hb24 : bytes ≤ 100) (hf : ∀ x : α, (f x).oneCell' = true ∧ (g x).oneCell' = true)
    (hgd : o.guard = none) (s x : Operand) (ho : o.op = .call { callee := .builtin .append, args := #[s, x], argTypes := #[t, t] })
    (B b c N n : Nat) (l : List α) (q : α) (hn : l.length = n) (hs : a.eval s = .slice (some ⟨b, 0, none⟩) n c) (hown : Own2 e f g w B b c l) (hx : a.eval x = .slice (some ⟨N, 0, none⟩) 1 1) (hN : w.heap[N]? = some (.cells #[f q, g q] e (0, 0)))
    (hl : l.length ≤ 1000000) (hB : B ≤ w.heap.size)
    (h : ∀ b' c' w', Own2 e f g w' B b' c' (l ++ [q]) → w.grownBy w' (some b) → (b = b' ∨ b' = w.heap.size) → b' < w'.heap.size → wpList Try.prog ops Q rest (a.put o.dst (.slice (some ⟨b', 0, none⟩) (n + 1) c')) w') :
    wpList Try.prog ops Q (o :: rest) a w := by
  subst hn
  have hby : (l.length + 1) * bytes ≤ 140737488355328 := by
    have : (l.length + 1) * bytes ≤ 1000001 * 100 := Nat.mul_le_mul (by omega) hb24
    omega
  exact wpList_append_lies (P := Try.prog) w hgd s x t ho B e i z 2 bytes ht hinfo hzero hsize hbytes hz (by omega) _ l.length (flat f g l) hs hown ⟨N, 0, none⟩ 1 1 [f q, g q] hx rfl (World.news_of_block hN) (by have := hf q; simp [this.1, this.2]) (by omega) (by unfold maxLen; omega) hby hB _ rfl
    (fun b' c' w' h1 h2 h3 h4 => h b' c' w' (by unfold Own2; simpa [flat] using h1) h2 (by rcases h3 with h3 | h3; exact .inl (by simpa [Value.ownBlock] using h3); exact .inr h3) h4)
end

section
variable {α : Type} {e : TypeId} {f g : α → Value}
theorem Own2.kept {W W' : World} {B b c : Nat} {l : List α} {r : Option Nat} (h : Own2 e f g W B b c l) (hg : W.grownBy W' r) (hne : some b ≠ r) : Own2 e f g W' B b c l :=
  World.ownsRow.kept h hg (.inr (by simpa [Value.ownBlock] using hne))
theorem Own2.lt {W : World} {B b c : Nat} {l : List α} (h : Own2 e f g W B b c l) : B ≤ b ∧ b < W.heap.size := World.ownsRow.lt h b rfl
theorem Own2.new (w : World) (B : Nat) (hB : B ≤ w.heap.size) : Own2 e f g (w.alloc (.cells #[] e)) B w.heap.size 0 ([] : List α) :=
  ⟨by simp, .inr ⟨w.heap.size, 0, #[], rfl, hB, (MapKept.heap_alloc w _).1, by simp, by unfold maxLen; omega, by simp, by simp⟩⟩
theorem Own2.cells {W : World} {B b c : Nat} {l : List α} (h : Own2 e f g W B b c l) (i : Nat) (x : α) (hx : l[i]? = some x) : W.cell? ⟨b, i * 2, none⟩ = some (f x) ∧ W.cell? ⟨b, i * 2 + 1, none⟩ = some (g x) := by
  obtain ⟨h1, h2⟩ := flat_get f g l i x hx
  have c1 := World.ownsRow.cells h rfl (i * 2) _ h1
  have c2 := World.ownsRow.cells h rfl (i * 2 + 1) _ h2
  rw [Addr.add_lit] at c1 c2
  rw [Nat.zero_add] at c1 c2
  exact ⟨c1, c2⟩
end
end Go.Proofs.Ytdpefmjlmpjjbaa.App2
