/-
  What a tariff takes of its fuel, and what more of it does; no program in it.
-/
import Derived.Test.YtdpefmjlmpjjbaaRunD
import Derived.Test.YtdpefmjlmpjjbaaNoM
namespace Go.Proofs.Ytdpefmjlmpjjbaa.Rule
set_option linter.unusedVariables false
open Go.RowKit
open Kinds (kidsK)
open Coin (okB)

theorem cntL_drop {l : List Ex} {k : Nat} (h : k < l.length) : cntL (l.drop k) = cnt (l.getD k E0) + cntL (l.drop (k + 1)) := by
  rw [List.drop_eq_getElem_cons h, cntL]; simp [List.getD, h]
/-- what the kids still to be run take at most -/
def toRun (e : Ex) (vs : List Int) : Nat := if e.kind = 9 ∧ 2 ≤ vs.length then 0 else cntL (e.kids.drop vs.length)
theorem toRun_nil (e : Ex) : toRun e [] = cntL e.kids := by
  unfold toRun; rw [if_neg (by simp)]; rfl
theorem kids9 : kidsK 9 = 3 := by decide
theorem next_toRun {e : Ex} {vs : List Int} {i : Nat} (hn : nodeE e = true) (h : nextM e.kind vs = some i) : i < e.kids.length ∧ ∀ v, cnt (e.kids.getD i E0) + toRun e (vs ++ [v]) ≤ toRun e vs := by
  have h3 := (node_parts hn).2.2.1
  unfold nextM at h
  by_cases k9 : e.kind = 9
  · rw [if_pos k9] at h
    rw [k9, kids9] at h3
    have h3' : e.kids.length = 3 := by omega
    have d0 : cntL (e.kids.drop 0) = cnt (e.kids.getD 0 E0) + cntL (e.kids.drop 1) := cntL_drop (by omega)
    have d1 : cntL (e.kids.drop 1) = cnt (e.kids.getD 1 E0) + cntL (e.kids.drop 2) := cntL_drop (by omega)
    have d2 : cntL (e.kids.drop 2) = cnt (e.kids.getD 2 E0) + cntL (e.kids.drop 3) := cntL_drop (by omega)
    split at h
    · next h0 =>
      obtain rfl := Option.some.inj h
      refine ⟨by omega, fun v => ?_⟩
      have r0 : toRun e vs = cntL (e.kids.drop 0) := by unfold toRun; rw [if_neg (by omega), h0]
      have r1 : toRun e (vs ++ [v]) = cntL (e.kids.drop 1) := by unfold toRun; rw [if_neg (fun hh => by have := hh.2; rw [List.length_append, h0] at this; simp at this), List.length_append, h0]; rfl
      rw [r0, r1]; omega
    split at h
    · next h0 h1 =>
      have r0 : toRun e vs = cntL (e.kids.drop 1) := by unfold toRun; rw [if_neg (by omega), h1]
      have r1 : ∀ v, toRun e (vs ++ [v]) = 0 := fun v => by unfold toRun; rw [if_pos ⟨k9, by simp; omega⟩]
      split at h
      · obtain rfl := Option.some.inj h
        refine ⟨by omega, fun v => ?_⟩
        rw [r0, r1]; omega
      · obtain rfl := Option.some.inj h
        refine ⟨by omega, fun v => ?_⟩
        rw [r0, r1]; omega
    · cases h
  · rw [if_neg k9] at h
    split at h
    · next hlt =>
      obtain rfl := Option.some.inj h
      have hl : vs.length < e.kids.length := by omega
      refine ⟨hl, fun v => ?_⟩
      have r0 : toRun e vs = cntL (e.kids.drop vs.length) := by unfold toRun; rw [if_neg (fun h => k9 h.1)]
      have r1 : toRun e (vs ++ [v]) = cntL (e.kids.drop (vs.length + 1)) := by unfold toRun; rw [if_neg (fun h => k9 h.1), List.length_append]; rfl
      rw [r0, r1, cntL_drop hl]; omega
    · cases h

mutual
/-- an expression takes one for each expression in it at most -/
theorem Ev.cost {us : List Uses.U} {e : Ex} {l : Nat} {v : Int} {c l' : Nat} : Ev us e l v c l' → allB e = true → l' ≤ l ∧ l ≤ l' + cnt e ∧ (c = 2 → l < cnt e)
  | .out e, _ => ⟨Nat.le_refl _, Nat.zero_le _, fun _ => by rw [cnt_eq]; omega⟩
  | .go h, ha => by
    obtain ⟨h1, h2, h3⟩ := Rest.cost h ha
    rw [toRun_nil] at h2 h3
    rw [cnt_eq]
    exact ⟨by omega, by omega, fun hc => by have := h3 hc; omega⟩
theorem Rest.cost {us : List Uses.U} {e : Ex} {vs : List Int} {l : Nat} {v : Int} {c l' : Nat} : Rest us e vs l v c l' → allB e = true → l' ≤ l ∧ l ≤ l' + toRun e vs ∧ (c = 2 → l < toRun e vs)
  | .kid (v := x) hn h ho hl k, ha => by
    obtain ⟨hi, hr⟩ := next_toRun (all_node ha) hn
    obtain ⟨a1, a2, _⟩ := Ev.cost h (all_kid ha hi)
    obtain ⟨b1, b2, b3⟩ := Rest.cost k ha
    have := hr x
    exact ⟨by omega, by omega, fun hc => by have := b3 hc; omega⟩
  | .bad hn h hc hl, ha => by
    obtain ⟨hi, hr⟩ := next_toRun (all_node ha) hn
    obtain ⟨a1, a2, a3⟩ := Ev.cost h (all_kid ha hi)
    have := hr 0
    exact ⟨a1, by omega, fun hc => by have := a3 hc; omega⟩
  | .val hn hv, ha => ⟨Nat.le_refl _, Nat.le_add_right _ _, fun h => by cases h⟩
  | .over hn hv, ha => ⟨Nat.le_refl _, Nat.le_add_right _ _, fun h => by cases h⟩
end
mutual
/-- more fuel changes nothing but what is left -/
theorem Ev.lift {us : List Uses.U} {e : Ex} {l : Nat} {v : Int} {c l' : Nat} : Ev us e l v c l' → c ≠ 2 → ∀ k, Ev us e (l + k) v c (l' + k)
  | .out e, hc, k => absurd rfl hc
  | .go h, hc, k => by
    have := Ev.go (Rest.lift h hc k)
    rwa [Nat.add_right_comm] at this
theorem Rest.lift {us : List Uses.U} {e : Ex} {vs : List Int} {l : Nat} {v : Int} {c l' : Nat} : Rest us e vs l v c l' → c ≠ 2 → ∀ k, Rest us e vs (l + k) v c (l' + k)
  | .kid hn h ho hl r, hc, k => .kid hn (Ev.lift h (by omega) k) ho (by omega) (Rest.lift r hc k)
  | .bad hn h h0 hl, hc, k => .bad hn (Ev.lift h hc k) h0 (by omega)
  | .val hn hv, hc, k => .val hn hv
  | .over hn hv, hc, k => .over hn hv
end

mutual
theorem Ev.code {us : List Uses.U} {e : Ex} {l : Nat} {v : Int} {c l' : Nat} : Ev us e l v c l' → c ≤ 2
  | .out e => Nat.le_refl _
  | .go h => Rest.code h
theorem Rest.code {us : List Uses.U} {e : Ex} {vs : List Int} {l : Nat} {v : Int} {c l' : Nat} : Rest us e vs l v c l' → c ≤ 2
  | .kid hn h ho hl k => Rest.code k
  | .bad hn h hc hl => Ev.code h
  | .val hn hv => by omega
  | .over hn hv => by omega
end

theorem ok_zero : okB 0 = true := by decide
theorem val_ok {us : List Uses.U} {e : Ex} {vs : List Int} (hn : nodeE e = true) (hvs : ∀ i, okB (vs.getD i 0) = true) (h : valB us e vs = true) : okB (valV us e vs) = true := by
  unfold valB at h
  unfold valV
  split
  · rename_i k; exact num_bd hn k
  rename_i k; rw [if_neg k] at h
  split
  · rename_i k; rw [if_pos k] at h; exact h
  rename_i k; rw [if_neg k] at h
  split
  · exact Coin.okB_true (Coin.part_bd _ _ _)
  rename_i k; rw [if_neg k] at h
  split
  · exact hvs 1
  rename_i k; rw [if_neg k] at h
  split
  · exact Coin.okB_true (Tiers.stepV_bd _ _)
  rename_i k; rw [if_neg k] at h
  exact pair_bd (hvs 0) (hvs 1) h
theorem getD_snoc {vs : List Int} {v : Int} (hvs : ∀ i, okB (vs.getD i 0) = true) (hv : okB v = true) (i : Nat) : okB ((vs ++ [v]).getD i 0) = true := by
  by_cases h : i < vs.length
  · have := hvs i
    simp only [List.getD_eq_getElem?_getD] at this ⊢
    rwa [List.getElem?_append_left h]
  · by_cases h' : i = vs.length
    · subst h'; simpa [List.getD_eq_getElem?_getD] using hv
    · have : (vs ++ [v])[i]? = none := by rw [List.getElem?_eq_none_iff]; simp; omega
      rw [List.getD_eq_getElem?_getD, this]; exact ok_zero
mutual
/-- a value is an amount, and nothing else is told -/
theorem Ev.amount {us : List Uses.U} {e : Ex} {l : Nat} {v : Int} {c l' : Nat} : Ev us e l v c l' → allB e = true → c = 0 → okB v = true
  | .out e, _, hc => by cases hc
  | .go h, ha, hc => Rest.amount h ha (fun i => by simpa [List.getD_eq_getElem?_getD] using ok_zero) hc
theorem Rest.amount {us : List Uses.U} {e : Ex} {vs : List Int} {l : Nat} {v : Int} {c l' : Nat} : Rest us e vs l v c l' → allB e = true → (∀ i, okB (vs.getD i 0) = true) → c = 0 → okB v = true
  | .kid hn h ho hl k, ha, hvs, hc => Rest.amount k ha (getD_snoc hvs ho) hc
  | .bad hn h h0 hl, ha, hvs, hc => absurd hc h0
  | .val hn hv, ha, hvs, _ => val_ok (all_node ha) hvs hv
  | .over hn hv, ha, hvs, hc => by cases hc
end

theorem val_congrO {us us' : List Uses.U} {o : ByteArray} (h : ∀ m, m ≠ o → Uses.ofV m us = Uses.ofV m us') {e : Ex} (he : e.meter ≠ o) (vs : List Int) : valV us e vs = valV us' e vs ∧ valB us e vs = valB us' e vs := by
  unfold valV valB; rw [h e.meter he]; exact ⟨rfl, rfl⟩
mutual
theorem Ev.congrO {us us' : List Uses.U} {o : ByteArray} (ho : ByteArray.empty ≠ o) (h : ∀ m, m ≠ o → Uses.ofV m us = Uses.ofV m us') {e : Ex} {l : Nat} {v : Int} {c l' : Nat} : Ev us e l v c l' → noE o e → Ev us' e l v c l'
  | .out e, _ => .out e
  | .go k, he => .go (Rest.congrO ho h k he)
theorem Rest.congrO {us us' : List Uses.U} {o : ByteArray} (ho : ByteArray.empty ≠ o) (h : ∀ m, m ≠ o → Uses.ofV m us = Uses.ofV m us') {e : Ex} {vs : List Int} {l : Nat} {v : Int} {c l' : Nat} : Rest us e vs l v c l' → noE o e → Rest us' e vs l v c l'
  | .kid (i := i) hn k hv hl r, he => .kid hn (Ev.congrO ho h k (noL_at ho (by rw [noE_eq] at he; exact he.2) i)) hv hl (Rest.congrO ho h r he)
  | .bad (i := i) hn k hc hl, he => .bad hn (Ev.congrO ho h k (noL_at ho (by rw [noE_eq] at he; exact he.2) i)) hc hl
  | .val hn hv, he => by
    rw [noE_eq] at he
    obtain ⟨e1, e2⟩ := val_congrO h he.1 _
    rw [e1]; exact .val hn (by rw [← e2]; exact hv)
  | .over hn hv, he => by
    rw [noE_eq] at he
    exact .over hn (by rw [← (val_congrO h he.1 _).2]; exact hv)
end

/-- a run, the same with a use more that it does not name, and with all the fuel there is -/
theorem run_facts {us us2 : List Uses.U} {e : Ex} {f v c t y b l : Int} (h : RunOf us e f v c t) (hx : RunOf us e 1000 y b l) (hn : noE oth e) (hu : ∀ m, m ≠ oth → Uses.ofV m us = Uses.ofV m us2) :
    (c = 3 ∧ t = 0) ∨ ((c ≠ 3 ∧ t ≤ f ∧ t ≤ 40) ∧ okB v = true ∧ (0 < c → v = 0) ∧ RunOf us2 e f v c t ∧ b ≠ 2 ∧ (c ≠ 2 → y = v ∧ b = c ∧ l = t)) := by
  by_cases hy : okE e = true ∧ 0 ≤ f ∧ f ≤ 1000
  · right
    unfold RunOf at h hx
    rw [if_pos hy] at h
    rw [if_pos ⟨hy.1, by omega, by omega⟩] at hx
    obtain ⟨n', c', l', hE, rfl, hl, rfl, rfl⟩ := h
    obtain ⟨n2, c2, l2, hE2, rfl, hl2, rfl, rfl⟩ := hx
    have ha := okE_all hy.1
    have hc40 : cnt e ≤ 40 := by have := hy.1; unfold okE at this; simp only [Bool.and_eq_true, decide_eq_true_eq] at this; exact this.1.2
    obtain ⟨a1, a2, a3⟩ := hE.cost ha
    obtain ⟨b1, b2, b3⟩ := hE2.cost ha
    have hcode := hE.code
    have e1000 : (1000 : Int).toNat = 1000 := rfl
    rw [e1000] at b1 b2 b3 hE2
    refine ⟨⟨by omega, by omega, by omega⟩, ?_, fun h0 => if_neg (by omega), ?_, ?_, ?_⟩
    · split
      · next h0 => exact hE.amount ha h0
      · exact ok_zero
    · unfold RunOf
      rw [if_pos hy]
      exact ⟨n', c', l', hE.congrO empty_oth hu hn, rfl, hl, rfl, rfl⟩
    · intro h2
      have := b3 (by omega)
      omega
    · intro h2
      have hL := hE.lift (by omega) (1000 - f.toNat)
      have e1 : f.toNat + (1000 - f.toNat) = 1000 := by omega
      rw [e1] at hL
      obtain ⟨rfl, rfl, hl3⟩ := Ev.det hE2 hL
      exact ⟨rfl, rfl, by omega⟩
  · left
    unfold RunOf at h
    rw [if_neg hy] at h
    exact ⟨h.2.1, h.2.2⟩
theorem ofV_oth (us : List Uses.U) (q : Int) : ∀ m, m ≠ oth → Uses.ofV m us = Uses.ofV m (us ++ [(oth, q)]) := fun m hm =>
  (ofV_front (fun u hu => by rw [List.mem_singleton.1 hu]; exact fun h => hm h.symm)).symm
end Go.Proofs.Ytdpefmjlmpjjbaa.Rule
