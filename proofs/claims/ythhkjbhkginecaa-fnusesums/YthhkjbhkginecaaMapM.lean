/-
  A map whose keys are texts, as the ascending list of its entries: what a store, a look-up and the sorted keys make of it. No program here.
-/
import Derived.Test.YthhkjbhkginecaaProg
import Derived.Maps.Own
import Derived.Maps.OwnSet
import Derived.Sort.KeysCollected
namespace Go.Proofs.Ythhkjbhkginecaa.MapM
set_option linter.unusedVariables false
open Go Go.Proofs

section
variable {α : Type} (key : α → ByteArray) (val : α → Value)

/-- the bytes of a key -/
abbrev kb (a : α) : List UInt8 := (key a).data.toList
/-- an entry as read -/
abbrev ent (a : α) : Lit × DataW Value := (.string (kb key a), .held (val a))
/-- the map as read -/
def DM (l : List α) : DataW Value := .map (l.map (ent key val))
/-- ascending by the keys -/
def Asc (l : List α) : Prop := l.Pairwise (fun a b => kb key a < kb key b)
/-- where a key is, or belongs -/
def pos (k : List UInt8) (l : List α) : Nat := (l.takeWhile (fun a => decide (kb key a < k))).length

theorem before_eq : ∀ (x y : List UInt8), bytesBefore x y = decide (x < y)
  | [], [] => by simp [bytesBefore]
  | _ :: _, [] => by simp [bytesBefore]
  | [], _ :: _ => by simp [bytesBefore]
  | a :: x, b :: y => by
    rw [bytesBefore, before_eq x y]
    by_cases h : a < b <;> by_cases h' : a = b <;> simp [h, h', List.cons_lt_cons_iff]

theorem lt_asymm {x y : List UInt8} (h : x < y) : ¬ y < x := fun h' => List.lt_irrefl _ (List.lt_trans h h')
theorem lt_tri {x y : List UInt8} (h : ¬ x < y) (hne : x ≠ y) : y < x := by
  rcases Decidable.em (y < x) with h' | h'
  · exact h'
  · exact absurd (List.le_antisymm h' h) hne

theorem pos_le (k : List UInt8) (l : List α) : pos key k l ≤ l.length := (List.takeWhile_prefix _).length_le
theorem pos_cons_lt {k : List UInt8} {a : α} {l : List α} (h : kb key a < k) : pos key k (a :: l) = pos key k l + 1 := by simp [pos, h]
theorem pos_cons_ge {k : List UInt8} {a : α} {l : List α} (h : ¬ kb key a < k) : pos key k (a :: l) = 0 := by simp [pos, h]

/-- those before are smaller, the one there is not -/
theorem pos_spec (k : List UInt8) : ∀ (l : List α) (i : Nat) (hi : i < l.length), (i < pos key k l → kb key l[i] < k) ∧ (i = pos key k l → ¬ kb key l[i] < k)
  | [], i, hi => by simp at hi
  | a :: l, i, hi => by
    by_cases h : kb key a < k
    · rw [pos_cons_lt key h]
      cases i with
      | zero => exact ⟨fun _ => h, fun e => by omega⟩
      | succ i =>
        have := pos_spec k l i (by simpa using hi)
        exact ⟨fun e => this.1 (by omega), fun e => this.2 (by omega)⟩
    · rw [pos_cons_ge key h]
      refine ⟨fun e => by omega, fun e => ?_⟩
      subst e
      exact h
/-- a walk that goes on while the keys are smaller ends there -/
theorem pos_of {k : List UInt8} : ∀ {l : List α} {n : Nat}, n ≤ l.length → (∀ i (hi : i < l.length), i < n → kb key l[i] < k) → (∀ (hn : n < l.length), ¬ kb key l[n] < k) → pos key k l = n
  | [], n, hn, _, _ => by have : n = 0 := by simpa using hn
                          subst this; rfl
  | a :: l, 0, _, _, h => pos_cons_ge key (h (by simp))
  | a :: l, n + 1, hn, h1, h2 => by
    have h0 : kb key a < k := h1 0 (by simp) (by omega)
    rw [pos_cons_lt key h0, pos_of (l := l) (n := n) (by simpa using hn) (fun i hi hin => h1 (i + 1) (by simpa using hi) (by omega)) (fun hn' => h2 (by simpa using hn'))]

theorem asc_tail {a : α} {l : List α} (h : Asc key (a :: l)) : Asc key l := (List.pairwise_cons.1 h).2

theorem filter_none {k : List UInt8} : ∀ (l : List α), (∀ a ∈ l, kb key a ≠ k) → (l.map (ent key val)).filter (fun p => !p.1.sameKey (.string k)) = l.map (ent key val)
  | [], _ => rfl
  | a :: l, h => by
    have h0 : (Lit.string (kb key a)).sameKey (.string k) = false := by simpa [Lit.sameKey] using h a (by simp)
    rw [List.map_cons, List.filter_cons_of_pos (by rw [h0]; rfl), filter_none l (fun b hb => h b (by simp [hb]))]

theorem insert_at (e : α) : ∀ (l : List α), (∀ a ∈ l, kb key a ≠ kb key e) → DataW.insert (ent key val e) (l.map (ent key val)) = (l.take (pos key (kb key e) l) ++ e :: l.drop (pos key (kb key e) l)).map (ent key val)
  | [], _ => rfl
  | a :: l, h => by
    have hb : (Lit.string (kb key e)).before (.string (kb key a)) = decide (kb key e < kb key a) := before_eq _ _
    rw [List.map_cons]
    unfold DataW.insert
    by_cases hlt : kb key a < kb key e
    · have : ¬ kb key e < kb key a := lt_asymm hlt
      rw [hb, decide_eq_false this, pos_cons_lt key hlt, insert_at e l (fun b hb => h b (by simp [hb]))]
      simp
    · have : kb key e < kb key a := lt_tri hlt (h a (by simp))
      rw [hb, decide_eq_true this, pos_cons_ge key hlt]
      simp

/-- a store at a key that is not there -/
theorem put_new (l : List α) (e : α) (h : ∀ a ∈ l, kb key a ≠ kb key e) : (DM key val l).put (.string (kb key e)) (.held (val e)) = DM key val (l.take (pos key (kb key e) l) ++ e :: l.drop (pos key (kb key e) l)) := by
  show DataW.map (DataW.insert (ent key val e) ((l.map (ent key val)).filter fun p => !p.1.sameKey (.string (kb key e)))) = _
  rw [filter_none key val l h, insert_at key val e l h]; rfl

/-- a store at a key that is there -/
theorem put_old : ∀ (l : List α) (e : α) (k : Nat) (hk : k < l.length), Asc key l → kb key l[k] = kb key e → (DM key val l).put (.string (kb key e)) (.held (val e)) = DM key val (l.set k e) := by
  intro l e k hk ha he
  show DataW.map (DataW.insert (ent key val e) ((l.map (ent key val)).filter fun p => !p.1.sameKey (.string (kb key e)))) = _
  have main : ∀ (l : List α) (k : Nat) (hk : k < l.length), Asc key l → kb key l[k] = kb key e → DataW.insert (ent key val e) ((l.map (ent key val)).filter fun p => !p.1.sameKey (.string (kb key e))) = (l.set k e).map (ent key val) := by
    intro l
    induction l with
    | nil => intro k hk; simp at hk
    | cons a l ih =>
      intro k hk ha he
      have hp := List.pairwise_cons.1 ha
      cases k with
      | zero =>
        have hs : (Lit.string (kb key a)).sameKey (.string (kb key e)) = true := by simpa [Lit.sameKey] using he
        have hno : ∀ b ∈ l, kb key b ≠ kb key e := fun b hb h => by
          have h1 : kb key a < kb key b := hp.1 b hb
          have h2 : kb key a = kb key e := he
          rw [h, h2] at h1
          exact List.lt_irrefl _ h1
        have h0 : pos key (kb key e) l = 0 := by
          cases l with
          | nil => rfl
          | cons b l =>
            have h1 : kb key a < kb key b := hp.1 b (by simp)
            have h2 : kb key a = kb key e := he
            rw [h2] at h1
            exact pos_cons_ge key (lt_asymm h1)
        rw [List.map_cons, List.filter_cons_of_neg (by rw [hs]; simp), filter_none key val l hno, insert_at key val e l hno, h0]
        simp
      | succ k =>
        have hk' : k < l.length := by simpa using hk
        have he' : kb key l[k] = kb key e := by simpa using he
        have hlt : kb key a < kb key e := by rw [← he']; exact hp.1 _ (List.getElem_mem hk')
        have hs : (Lit.string (kb key a)).sameKey (.string (kb key e)) = false := by
          have : kb key a ≠ kb key e := fun h => by rw [h] at hlt; exact List.lt_irrefl _ hlt
          simpa [Lit.sameKey] using this
        have hb : (Lit.string (kb key e)).before (.string (kb key a)) = false := by
          show bytesBefore _ _ = false
          rw [before_eq]; exact decide_eq_false (lt_asymm hlt)
        rw [List.map_cons, List.filter_cons_of_pos (by rw [hs]; rfl)]
        unfold DataW.insert
        rw [hb, ih k hk' hp.2 he']
        simp
  rw [main l k hk ha he]; rfl

theorem atKey_hit (z : DataW Value) : ∀ (l : List α) (k : Nat) (hk : k < l.length), Asc key l → (DM key val l).atKey (.string (kb key l[k])) z = .held (val l[k]) := by
  intro l k hk ha
  have main : ∀ (l : List α) (k : Nat) (hk : k < l.length), Asc key l → (l.map (ent key val)).find? (fun p => p.1.sameKey (.string (kb key l[k]))) = some (ent key val l[k]) := by
    intro l
    induction l with
    | nil => intro k hk; simp at hk
    | cons a l ih =>
      intro k hk ha
      have hp := List.pairwise_cons.1 ha
      cases k with
      | zero => rw [List.map_cons, List.find?_cons_of_pos (by simp [Lit.sameKey])]; rfl
      | succ k =>
        have hk' : k < l.length := by simpa using hk
        have hlt : kb key a < kb key l[k] := hp.1 _ (List.getElem_mem hk')
        have hs : (Lit.string (kb key a)).sameKey (.string (kb key l[k])) = false := by
          have : kb key a ≠ kb key l[k] := fun h => by rw [h] at hlt; exact List.lt_irrefl _ hlt
          simpa [Lit.sameKey] using this
        rw [List.map_cons]
        simp only [List.getElem_cons_succ]
        rw [List.find?_cons_of_neg (by rw [hs]; simp)]
        exact ih k hk' hp.2
  unfold DM DataW.atKey
  simp only [main l k hk ha]

theorem find_none {k : List UInt8} : ∀ (l : List α), (∀ a ∈ l, kb key a ≠ k) → (l.map (ent key val)).find? (fun p => p.1.sameKey (.string k)) = none
  | [], _ => rfl
  | a :: l, h => by
    have h0 : (Lit.string (kb key a)).sameKey (.string k) = false := by simpa [Lit.sameKey] using h a (by simp)
    rw [List.map_cons, List.find?_cons_of_neg (by rw [h0]; simp)]
    exact find_none l (fun b hb => h b (by simp [hb]))
theorem atKey_miss (z : DataW Value) (l : List α) {k : List UInt8} (h : ∀ a ∈ l, kb key a ≠ k) : (DM key val l).atKey (.string k) z = z := by
  unfold DM DataW.atKey
  simp only [find_none key val l h]

theorem has_hit (l : List α) {k : List UInt8} (h : ∃ a ∈ l, kb key a = k) : Maps.has (DM key val l) (.string k) = true := by
  obtain ⟨a, ha, rfl⟩ := h
  unfold DM
  rw [Maps.has_eq, List.any_map, List.any_eq_true]
  exact ⟨a, ha, by simp [Lit.sameKey]⟩
theorem has_miss (l : List α) {k : List UInt8} (h : ∀ a ∈ l, kb key a ≠ k) : Maps.has (DM key val l) (.string k) = false := by
  unfold DM
  rw [Maps.has_eq, List.any_map, List.any_eq_false]
  intro a ha
  simpa [Lit.sameKey] using h a ha
theorem size_DM (l : List α) : Maps.size (DM key val l) = l.length := by unfold DM; rw [Maps.size_eq]; simp
theorem keys_DM (l : List α) : strKeys (DM key val l) = l.map (kb key) := by
  unfold DM strKeys
  simp only [List.map_map]
  rfl

/-- the keys, sorted -/
theorem sorted_keys {l : List α} (ha : Asc key l) {ss : List (List UInt8)} (h : ss.Perm (l.map (kb key))) : ss.mergeSort (fun x y => decide (x ≤ y)) = l.map (kb key) := by
  have trans : ∀ a b c : List UInt8, decide (a ≤ b) = true → decide (b ≤ c) = true → decide (a ≤ c) = true := fun a b c h1 h2 => by
    simp only [decide_eq_true_eq] at *; exact List.le_trans h1 h2
  have total : ∀ a b : List UInt8, (decide (a ≤ b) || decide (b ≤ a)) = true := fun a b => by
    simp only [Bool.or_eq_true, decide_eq_true_eq]; exact List.le_total a b
  have h1 : (ss.mergeSort (fun x y => decide (x ≤ y))).Pairwise (fun a b => decide (a ≤ b) = true) := List.pairwise_mergeSort trans total ss
  have h2 : (l.map (kb key)).Pairwise (fun a b => decide (a ≤ b) = true) := by
    rw [List.pairwise_map]
    exact ha.imp (fun {a b} hab => by simp only [decide_eq_true_eq]; exact List.le_of_lt hab)
  refine List.Perm.eq_of_pairwise ?_ h1 h2 ((List.mergeSort_perm ss _).trans h)
  intro a b _ _ hab hba
  simp only [decide_eq_true_eq] at hab hba
  exact List.le_antisymm hab hba
end
end Go.Proofs.Ythhkjbhkginecaa.MapM
