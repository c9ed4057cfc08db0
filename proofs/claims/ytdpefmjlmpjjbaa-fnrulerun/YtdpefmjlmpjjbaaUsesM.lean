/-
  What a tariff comes to does not hang on the order of meters; no program in it.
-/
import Derived.Test.YtdpefmjlmpjjbaaRunM
namespace Go.Proofs.Ytdpefmjlmpjjbaa.Rule
set_option linter.unusedVariables false

/-- no meter is told twice -/
def Apart (us : List Uses.U) : Prop := us.Pairwise fun a b => a.1 ≠ b.1
theorem ofV_not {m : ByteArray} : ∀ {us : List Uses.U}, (∀ u ∈ us, u.1 ≠ m) → Uses.ofV m us = 0
  | [], _ => rfl
  | u :: us, h => by rw [Uses.ofV, if_neg (h u (List.mem_cons_self ..))]; exact ofV_not fun v hv => h v (List.mem_cons_of_mem _ hv)
theorem ofV_append {m : ByteArray} : ∀ {a b : List Uses.U}, (∀ u ∈ a, u.1 ≠ m) → Uses.ofV m (a ++ b) = Uses.ofV m b
  | [], b, _ => rfl
  | u :: a, b, h => by rw [List.cons_append, Uses.ofV, if_neg (h u (List.mem_cons_self ..))]; exact ofV_append fun v hv => h v (List.mem_cons_of_mem _ hv)
theorem ofV_front {m : ByteArray} : ∀ {a b : List Uses.U}, (∀ u ∈ b, u.1 ≠ m) → Uses.ofV m (a ++ b) = Uses.ofV m a
  | [], b, h => by rw [List.nil_append, ofV_not h]; rfl
  | u :: a, b, h => by
    rw [List.cons_append, Uses.ofV, Uses.ofV, ofV_front h]
/-- told the other way round a meter is told as much -/
theorem ofV_reverse (m : ByteArray) : ∀ {us : List Uses.U}, Apart us → Uses.ofV m us.reverse = Uses.ofV m us
  | [], _ => rfl
  | u :: us, h => by
    obtain ⟨h1, h2⟩ := List.pairwise_cons.1 h
    rw [List.reverse_cons, Uses.ofV]
    by_cases e : u.1 = m
    · rw [if_pos e, ofV_append (fun v hv => by rw [← e]; exact fun h' => h1 v (List.mem_reverse.1 hv) h'.symm), Uses.ofV, if_pos e]
    · rw [if_neg e, ofV_front (fun v hv => by rw [List.mem_singleton.1 hv]; exact e)]
      exact ofV_reverse m h2

theorem val_congr {us us' : List Uses.U} (h : ∀ m, Uses.ofV m us = Uses.ofV m us') (e : Ex) (vs : List Int) : valV us e vs = valV us' e vs ∧ valB us e vs = valB us' e vs := by
  unfold valV valB; rw [h e.meter]; exact ⟨rfl, rfl⟩
mutual
theorem Ev.congr {us us' : List Uses.U} (h : ∀ m, Uses.ofV m us = Uses.ofV m us') {e : Ex} {l : Nat} {v : Int} {c l' : Nat} : Ev us e l v c l' → Ev us' e l v c l'
  | .out e => .out e
  | .go k => .go (Rest.congr h k)
theorem Rest.congr {us us' : List Uses.U} (h : ∀ m, Uses.ofV m us = Uses.ofV m us') {e : Ex} {vs : List Int} {l : Nat} {v : Int} {c l' : Nat} : Rest us e vs l v c l' → Rest us' e vs l v c l'
  | .kid hn k ho hl r => .kid hn (Ev.congr h k) ho hl (Rest.congr h r)
  | .bad hn k hc hl => .bad hn (Ev.congr h k) hc hl
  | .val hn hv => by rw [(val_congr h e vs).1]; exact .val hn (by rw [← (val_congr h e vs).2]; exact hv)
  | .over hn hv => .over hn (by rw [← (val_congr h e vs).2]; exact hv)
end
end Go.Proofs.Ytdpefmjlmpjjbaa.Rule
