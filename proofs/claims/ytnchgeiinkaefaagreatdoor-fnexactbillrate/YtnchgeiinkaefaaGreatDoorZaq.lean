/-
  Texts of this proof laid together, in build order; each says of itself what it holds.
-/
import Derived.Test.YtnchgeiinkaefaaGreatDoorZap
import Derived.Lib.Join
import Derived.Test.YtnchgeiinkaefaaGreatDoorZae
import Derived.Test.YtnchgeiinkaefaaGreatDoorZad
import Derived.RangeFuncNested
import Derived.RangeFuncBound
import Derived.RangeFuncCalls
import Derived.RangeFuncLeaves
import Derived.Shelf.Abstract
import Derived.Shelf.RegionOpen
import Derived.OwnWalkIn
import Derived.TacticsInMore
import Derived.LoopNIn
import Derived.LoopIn
section
/-
  The program's reader reads what is written.
-/
namespace Go.Proofs.YtnchgeiinkaefaaGreatDoor.Rule
set_option linter.unusedVariables false
open Tiers
open Kinds hiding hide unhide below_trans ext_toList

theorem index_at (c : UInt8) (r : List UInt8) : ∀ (l : List UInt8), (∀ b ∈ l, b ≠ c) → Lib.index (l ++ c :: r) [c] = l.length
  | [], _ => by simp [Lib.index]
  | b :: l, h => by
    have hb : b ≠ c := h b (List.mem_cons_self ..)
    have ih := index_at c r l (fun x hx => h x (List.mem_cons_of_mem _ hx))
    simp only [List.cons_append, Lib.index]
    have e : [c].isPrefixOf (b :: (l ++ c :: r)) = false := by simp [List.isPrefixOf]; exact fun e => hb e.symm
    rw [e, ih]
    have e2 : (((l.length : Int)) == -1) = false := beq_eq_false_iff_ne.2 (by omega)
    rw [e2]; simp
theorem cut_at (c : UInt8) (l r : List UInt8) (h : ∀ b ∈ l, b ≠ c) : Lib.cut (l ++ c :: r) [c] = (l, r, true) := by
  unfold Lib.cut
  rw [index_at c r l h, if_pos (by omega)]
  simp
theorem index_none (c : UInt8) : ∀ (l : List UInt8), (∀ b ∈ l, b ≠ c) → Lib.index l [c] = -1
  | [], _ => by simp [Lib.index]
  | b :: l, h => by
    have hb : b ≠ c := h b (List.mem_cons_self ..)
    have ih := index_none c l (fun x hx => h x (List.mem_cons_of_mem _ hx))
    simp only [Lib.index]
    have e : [c].isPrefixOf (b :: l) = false := by simp [List.isPrefixOf]; exact fun e => hb e.symm
    rw [e, ih]; simp
theorem cut_none (c : UInt8) (l : List UInt8) (h : ∀ b ∈ l, b ≠ c) : Lib.cut l [c] = (l, [], false) := by
  unfold Lib.cut
  rw [index_none c l h, if_neg (by omega)]

/-! ### the words behind the kids -/
theorem fieldsGo_word : ∀ (w cur r : List UInt8), (∀ b ∈ w, Lib.isSp b = false) → Lib.fieldsGo cur (w ++ r) = Lib.fieldsGo (cur ++ w) r
  | [], cur, r, _ => by simp
  | b :: w, cur, r, h => by
    rw [List.cons_append, Lib.fieldsGo, if_neg (by simp [h b (List.mem_cons_self ..)]), fieldsGo_word w (cur ++ [b]) r (fun x hx => h x (List.mem_cons_of_mem _ hx))]
    simp
theorem fieldsGo_next {w r : List UInt8} (hw : w ≠ []) : Lib.fieldsGo w (32 :: r) = w :: Lib.fieldsGo [] r := by
  rw [Lib.fieldsGo, if_pos (by decide), if_neg (by cases w with | nil => exact absurd rfl hw | cons a b => simp)]
/-- words, each behind a space -/
def spaced : List (List UInt8) → List UInt8
  | [] => []
  | w :: ws => 32 :: (w ++ spaced ws)
def Word (w : List UInt8) : Prop := w ≠ [] ∧ ∀ b ∈ w, Lib.isSp b = false
theorem fields_from : ∀ (ws : List (List UInt8)) (w : List UInt8), Word w → (∀ x ∈ ws, Word x) → Lib.fieldsGo w (spaced ws) = w :: ws
  | [], w, hw, _ => by
    rw [spaced, Lib.fieldsGo, if_neg (by cases w with | nil => exact absurd rfl hw.1 | cons a b => simp)]
  | v :: ws, w, hw, h => by
    rw [spaced, fieldsGo_next hw.1, fieldsGo_word v [] _ (h v (List.mem_cons_self ..)).2, List.nil_append, fields_from ws v (h v (List.mem_cons_self ..)) (fun x hx => h x (List.mem_cons_of_mem _ hx))]
theorem fields_spaced : ∀ (ws : List (List UInt8)), (∀ x ∈ ws, Word x) → Lib.fields (spaced ws) = ws
  | [], _ => by simp [spaced, Lib.fields, Lib.fieldsGo]
  | v :: ws, h => by
    have e : Lib.fieldsGo [] (32 :: (v ++ spaced ws)) = Lib.fieldsGo [] (v ++ spaced ws) := by
      rw [Lib.fieldsGo, if_pos (by decide)]; simp
    rw [Lib.fields, spaced, e, fieldsGo_word v [] _ (h v (List.mem_cons_self ..)).2, List.nil_append, fields_from ws v (h v (List.mem_cons_self ..)) (fun x hx => h x (List.mem_cons_of_mem _ hx))]
def tierW2 (t : Int × Int) : List UInt8 := Lib.itoa t.1 ++ 58 :: Lib.itoa t.2
theorem spaced_wrT : ∀ ts : List (Int × Int), spaced (ts.map tierW2) = wrT ts
  | [] => rfl
  | t :: ts => by rw [List.map_cons, spaced, wrT, spaced_wrT ts]; simp [tierW2]
theorem isSp_no {b : UInt8} (h : 33 ≤ b.toNat) : Lib.isSp b = false := by
  unfold Lib.isSp
  have e : ∀ c : UInt8, c.toNat < 33 → (b == c) = false := by
    intro c hc
    rw [beq_eq_false_iff_ne]; intro e; subst e; omega
  rw [e 9 (by decide), e 10 (by decide), e 11 (by decide), e 12 (by decide), e 13 (by decide), e 32 (by decide)]; rfl
theorem word_itoa (n : Int) : Word (Lib.itoa n) := ⟨itoa_ne n, fun b hb => isSp_no (by have := itoa_bytes n b hb; omega)⟩
theorem word_tier (t : Int × Int) : Word (tierW2 t) := by
  refine ⟨by unfold tierW2; simp, fun b hb => ?_⟩
  unfold tierW2 at hb
  rcases List.mem_append.1 hb with h | h
  · exact (word_itoa t.1).2 b h
  · rcases List.mem_cons.1 h with rfl | h
    · decide
    · exact (word_itoa t.2).2 b h
theorem itoa_no {n : Int} {c : UInt8} (hc : c.toNat ≠ 45 ∧ (c.toNat < 48 ∨ 57 < c.toNat)) : ∀ b ∈ Lib.itoa n, b ≠ c := by
  intro b hb e
  subst e
  have := itoa_bytes n b hb
  omega
theorem cut_tier (t : Int × Int) : Lib.cut (tierW2 t) [58] = (Lib.itoa t.1, Lib.itoa t.2, true) := cut_at 58 _ _ (itoa_no (by decide))
theorem owns_tiers : ∀ (ts0 : List (Int × Int)) (n n' : Int) (ts ts' : List (Int × Int)), (∀ t ∈ ts0, numOk t.1 ∧ numOk t.2) → OwnsOf (ts0.map tierW2) n ts n' ts' → n' = n ∧ ts' = ts ++ ts0
  | [], n, n', ts, ts', _, h => by obtain ⟨rfl, rfl⟩ := h; simp
  | t :: ts0, n, n', ts, ts', hn, h => by
    obtain ⟨n1, ts1, h1, h2⟩ := h
    obtain ⟨rfl, rfl⟩ := owns_tiers ts0 n1 n' ts1 ts' (fun x hx => hn x (List.mem_cons_of_mem _ hx)) h2
    unfold OwnI at h1
    rw [cut_tier] at h1
    rcases h1 with ⟨h, _⟩ | ⟨_, rfl, a, b, ha, hb, rfl⟩
    · cases h
    · obtain ⟨k1, k2⟩ := hn t (List.mem_cons_self ..)
      rw [ha t.1 (atoi_itoa k1), hb t.2 (atoi_itoa k2)]
      simp
theorem owns_num {m n n' : Int} {ts ts' : List (Int × Int)} (hm : numOk m) (h : OwnsOf [Lib.itoa m] n ts n' ts') : n' = m ∧ ts' = ts := by
  obtain ⟨n1, ts1, h1, rfl, rfl⟩ := h
  unfold OwnI at h1
  rw [cut_none 58 _ (itoa_no (by decide))] at h1
  rcases h1 with ⟨_, hv, rfl⟩ | ⟨h, _⟩
  · exact ⟨hv m (atoi_itoa hm), rfl⟩
  · cases h

/-! ### kids -/
theorem kids_readI {R : List UInt8 → Ex → List UInt8 → Prop} : ∀ (ks0 ks : List Ex) (r0 r : List UInt8), ks.length = ks0.length → Tail r0 → Low r0 → allL ks0 = true → (∀ e ∈ ks0, ∀ t e' r', Tail t → Low t → R (wr e ++ t) e' r' → e' = e ∧ r' = t) → KidsOf R (wrS ks0 ++ r0) ks r → ks = ks0 ∧ r = r0
  | [], [], r0, r, _, _, _, _, _, h => by obtain rfl : r = wrS [] ++ r0 := h; simp
  | e :: es, k :: ks, r0, r, hl, ht, hlo, ha, hR, h => by
    obtain ⟨r1, h1, h2⟩ := h
    rw [allL, Bool.and_eq_true] at ha
    have e1 : wrS (e :: es) ++ r0 = 32 :: (wr e ++ (wrS es ++ r0)) := by simp [wrS]
    have hT : Tail (wrS es ++ r0) := by
      cases es with
      | nil => simpa [wrS] using ht
      | cons a b => exact .inr ⟨32, _, rfl, .inl rfl⟩
    have e2 : trimSp (32 :: (wr e ++ (wrS es ++ r0))) = wr e ++ (wrS es ++ r0) := by unfold trimSp; simp
    rw [e1, e2] at h1
    obtain ⟨rfl, rfl⟩ := hR e (List.mem_cons_self ..) _ _ _ hT (low_app (low_wrS es ha.2) hlo) h1
    obtain ⟨rfl, rfl⟩ := kids_readI es ks r0 r (by simpa using hl) ht hlo ha.2 (fun e' h' => hR e' (List.mem_cons_of_mem _ h')) h2
    exact ⟨rfl, rfl⟩
theorem noBr_T : ∀ ts : List (Int × Int), ∀ b ∈ wrT ts, b ≠ 41
  | [], b, hb => by cases hb
  | t :: ts, b, hb => by
    rw [wrT] at hb
    rcases List.mem_cons.1 hb with rfl | hb
    · decide
    rcases List.mem_append.1 hb with hb | hb
    · exact itoa_no (by decide) b hb
    rcases List.mem_cons.1 hb with rfl | hb
    · decide
    rcases List.mem_append.1 hb with hb | hb
    · exact itoa_no (by decide) b hb
    · exact noBr_T ts b hb
theorem noBr_O (k n : Int) (ts : List (Int × Int)) : ∀ b ∈ wrO k n ts, b ≠ 41 := by
  intro b hb
  unfold wrO at hb
  rcases List.mem_append.1 hb with hb | hb
  · split at hb
    · rcases List.mem_cons.1 hb with rfl | hb
      · decide
      · exact itoa_no (by decide) b hb
    · cases hb
  · exact noBr_T ts b hb

theorem reads_wr : ∀ (n : Nat) (e0 : Ex) (t : List UInt8) (e : Ex) (r : List UInt8), allB e0 = true → Tail t → Low t → ReadsI n (wr e0 ++ t) e r → e = e0 ∧ r = t := by
  intro n
  induction n with
  | zero => intro e0 t e r _ _ _ h; cases h
  | succ n ih =>
    intro e0 t e r ha ht hlo h
    have hlow := low_app (low_wr e0 ha) hlo
    obtain ⟨k, m, mt, ks, ts⟩ := e0
    have ha' := ha
    rw [allB, Bool.and_eq_true] at ha
    obtain ⟨hn, hks⟩ := ha
    by_cases k1 : k = 1
    · subst k1
      obtain ⟨a1, a2, rfl, rfl⟩ := node_num hn
      obtain rfl := List.length_eq_zero_iff.1 a1
      rw [wr, if_pos rfl] at h hlow
      rcases h with ⟨_, w, hc, hl⟩ | ⟨t', e1, _⟩
      · obtain ⟨rfl, rfl⟩ := hc.one hlow (fun b hb => endB_of (nostop_itoa m b hb)) ht.fin
        rcases hl with ⟨v, hv, rfl⟩ | ⟨hv, _⟩
        · rw [atoi_itoa a2] at hv
          simp only [Lib.NumEnd.ok.injEq] at hv
          rw [hv]; exact ⟨rfl, rfl⟩
        · exact absurd (atoi_itoa a2) (hv m)
      · exact absurd (by rw [e1]; rfl) (head_itoa m t)
    by_cases k2 : k = 2
    · subst k2
      obtain ⟨a1, a2, rfl, rfl⟩ := node_name hn
      obtain rfl := List.length_eq_zero_iff.1 a1
      obtain ⟨l1, l2, l3⟩ := letters_of a2
      rw [wr, if_neg (by omega), if_pos rfl] at h hlow
      rcases h with ⟨_, w, hc, hl⟩ | ⟨t', e1, _⟩
      · obtain ⟨rfl, rfl⟩ := hc.one hlow (fun b hb => endB_of (nostop_letters l1 b hb)) ht.fin
        rcases hl with ⟨v, hv, _⟩ | ⟨_, rfl⟩
        · exact absurd hv (atoi_name l1 l2 v)
        · rw [bytes_self]; exact ⟨rfl, rfl⟩
      · exact absurd (by rw [e1]; rfl) (head_letters (r := t) l1 l3)
    · obtain ⟨h3, a1, a2, a3, rfl, a4, a5, a6, a7⟩ := node_more hn k1 k2
      obtain ⟨l1, l2, l3, l4⟩ := word_of h3
      rw [wr, if_neg k1, if_neg k2] at h hlow
      have e1 : (40 :: (wordL k ++ (wrS ks ++ (wrO k m ts ++ [41])))) ++ t = 40 :: (wordL k ++ (wrS ks ++ (wrO k m ts ++ 41 :: t))) := by simp
      rw [e1] at h hlow
      rcases h with ⟨hh, _⟩ | ⟨t', e2, w, r1, hc, hrest⟩
      · exact absurd rfl hh
      · obtain rfl := (List.cons.inj e2).2
        have hlow2 : Low (wordL k ++ (wrS ks ++ (wrO k m ts ++ 41 :: t))) := fun b hb => hlow b (List.mem_cons_of_mem _ hb)
        have hr1 : wrS ks ++ (wrO k m ts ++ 41 :: t) = [] ∨ ∃ b u, wrS ks ++ (wrO k m ts ++ 41 :: t) = b :: u ∧ endB b = true := by
          cases ks with
          | nil => simp at a2
          | cons a b => exact .inr ⟨32, _, rfl, by decide⟩
        obtain ⟨rfl, rfl⟩ := hc.one hlow2 (fun b hb => endB_of (nostop_letters l1 b hb)) hr1
        rw [l4] at hrest
        rcases hrest with ⟨h0, _⟩ | ⟨_, ks', r2, ws, num, ts', hkl, hkids, hr, hws, _, howns, rfl⟩
        · omega
        have hT : Tail (wrO k m ts ++ 41 :: t) := by
          unfold wrO
          split
          · exact .inr ⟨32, _, rfl, .inl rfl⟩
          · cases ts with
            | nil => exact .inr ⟨41, t, rfl, .inr rfl⟩
            | cons a b => exact .inr ⟨32, _, rfl, .inl rfl⟩
        obtain ⟨rfl, rfl⟩ := kids_readI ks ks' _ r2 (by omega) hT (low_app (low_wrO k m ts) (low_cons (by decide) hlo)) hks (fun e he t' e' r' h1 h2 h3 => ih e t' e' r' (allL_mem hks e he) h1 h2 h3) hkids
        have hcut := cut_at 41 (wrO k m ts) t (noBr_O k m ts)
        rw [hcut] at hr hws
        have hws2 := hws (low_wrO k m ts)
        simp only at hr
        subst hr
        by_cases k6 : k = 6
        · subst k6
          obtain rfl := a7 (by omega)
          have ew : wrO 6 m [] = spaced [Lib.itoa m] := by simp [wrO, wrT, spaced]
          rw [ew, fields_spaced _ (fun x hx => by obtain rfl := List.mem_singleton.1 hx; exact word_itoa m)] at hws2
          rw [hws2] at howns
          obtain ⟨rfl, rfl⟩ := owns_num a4 howns
          exact ⟨rfl, rfl⟩
        · obtain rfl := a5 k6
          have ew : wrO k 0 ts = spaced (ts.map tierW2) := by rw [spaced_wrT]; simp [wrO, k6]
          rw [ew, fields_spaced _ (fun x hx => by obtain ⟨y, _, rfl⟩ := List.mem_map.1 hx; exact word_tier y)] at hws2
          rw [hws2] at howns
          have htn : ∀ t ∈ ts, numOk t.1 ∧ numOk t.2 := by
            by_cases k10 : k = 10
            · exact (tier_ok (a6 k10)).2.2
            · rw [a7 k10]; intro t ht; cases ht
          obtain ⟨rfl, rfl⟩ := owns_tiers ts 0 num [] ts' htn howns
          exact ⟨rfl, rfl⟩

/-! ### how much a text can make -/
theorem owns_len : ∀ {ws : List (List UInt8)} {n n' : Int} {ts ts' : List (Int × Int)}, OwnsOf ws n ts n' ts' → ts'.length ≤ ts.length + ws.length
  | [], n, n', ts, ts', h => by obtain ⟨_, rfl⟩ := h; simp
  | w :: ws, n, n', ts, ts', h => by
    obtain ⟨n1, ts1, h1, h2⟩ := h
    have := owns_len h2
    rcases h1 with ⟨_, _, rfl⟩ | ⟨_, _, a, b, _, _, rfl⟩
    · simp; omega
    · simp at this ⊢; omega
theorem trim_len (t : List UInt8) : (trimSp t).length ≤ t.length := by
  unfold trimSp
  split
  · simp
  · omega
theorem cut_len2 (c : UInt8) (t : List UInt8) : (Lib.cut t [c]).1.length + (Lib.cut t [c]).2.1.length ≤ t.length := by
  unfold Lib.cut
  split
  · simp; omega
  · simp
theorem kids_len {R : List UInt8 → Ex → List UInt8 → Prop} (hR : ∀ t e r, R t e r → wt e + 4 * r.length ≤ 4 * t.length) : ∀ {t : List UInt8} {ks : List Ex} {r : List UInt8}, KidsOf R t ks r → wtL ks + 4 * r.length ≤ 4 * t.length + ks.length
  | t, [], r, h => by obtain rfl : r = t := h; simp [wtL]
  | t, e :: es, r, h => by
    obtain ⟨r1, h1, h2⟩ := h
    have a1 := hR _ _ _ h1
    have a2 := kids_len hR h2
    have a3 := trim_len t
    rw [wtL]
    simp only [List.length_cons]
    omega
theorem opK_word {w : List UInt8} (h : opK (bytesOf w) ≠ 0) : 2 ≤ w.length := by
  refine Nat.le_of_not_lt fun hl => h ?_
  have hs : (bytesOf w).size = w.length := by simp [bytesOf, ByteArray.size]
  refine opK_none (fun j h1 h2 e => ?_)
  have : (wordK j).size ≤ 1 := by rw [e, hs]; omega
  have hj : j = 3 ∨ j = 4 ∨ j = 5 ∨ j = 6 ∨ j = 7 ∨ j = 8 ∨ j = 9 ∨ j = 10 := by omega
  rcases hj with rfl | rfl | rfl | rfl | rfl | rfl | rfl | rfl <;> exact absurd this (by decide)
theorem reads_wt : ∀ (n : Nat) (t : List UInt8) (e : Ex) (r : List UInt8), ReadsI n t e r → wt e + 4 * r.length ≤ 4 * t.length := by
  intro n
  have z : ByteArray.empty.size = 0 := rfl
  induction n with
  | zero => intro t e r h; cases h
  | succ n ih =>
    intro t e r h
    rcases h with ⟨_, w, hc, hl⟩ | ⟨t', rfl, w, r1, hc, hrest⟩
    · have hlen := congrArg List.length hc.1
      simp only [List.length_append] at hlen
      rcases hl with ⟨v, _, rfl⟩ | ⟨_, rfl⟩
      · rw [wt, z]; simp [wtL]; omega
      · have hs : (bytesOf w).size = w.length := by simp [bytesOf, ByteArray.size]
        rw [wt, hs]; simp [wtL]; omega
    · have hlen := congrArg List.length hc.1
      simp only [List.length_append] at hlen
      rcases hrest with ⟨_, rfl, rfl⟩ | ⟨h0, ks, r2, ws, num, ts, hk, hkids, rfl, _, hw, ho, rfl⟩
      · rw [wt, z]; simp [wtL]; omega
      · have a1 := kids_len (ih ·) hkids
        have a2 := owns_len ho
        have a3 := cut_len2 41 r2
        have a4 := opK_word h0
        have a5 : ks.length ≤ 3 := by
          have hx : kidsK (opK (bytesOf w)) ≤ 3 := by
            unfold kidsK
            repeat' split
            all_goals omega
          omega
        rw [wt, z]
        simp only [List.length_nil, List.length_cons] at *
        omega
end Go.Proofs.YtnchgeiinkaefaaGreatDoor.Rule
end

section
/-
  Texts of expressions as the program writes them: words with a space between each two; no program in it.
-/
namespace Go.Proofs.YtnchgeiinkaefaaGreatDoor.Rule
set_option linter.unusedVariables false
open Tiers
open Kinds hiding hide unhide below_trans ext_toList

/-- the words behind the kids -/
def ownW (k n : Int) (m : ByteArray) (ts : List (Int × Int)) : List (List UInt8) :=
  if k = 1 ∨ k = 6 then [Lib.itoa n] else if k = 2 then [m.data.toList] else if k = 10 then ts.map tierW2 else []
theorem spaced_append : ∀ a b : List (List UInt8), spaced (a ++ b) = spaced a ++ spaced b
  | [], b => rfl
  | w :: a, b => by rw [List.cons_append, spaced, spaced, spaced_append a b]; simp
theorem spaced_wrS : ∀ ks : List Ex, spaced (ks.map wr) = wrS ks
  | [] => by simp [spaced, wrS]
  | e :: es => by rw [List.map_cons, spaced, wrS, spaced_wrS es]
theorem joinTail_spaced : ∀ ws : List (List UInt8), Lib.joinTail [32] ws = spaced ws
  | [] => rfl
  | w :: ws => by
    have h : Lib.joinTail [32] (w :: ws) = ([32] ++ w) ++ Lib.joinTail [32] ws := by simp [Lib.joinTail]
    rw [h, joinTail_spaced ws, spaced]; simp
theorem spaced_join {ws : List (List UInt8)} (h : ws ≠ []) : spaced ws = 32 :: Lib.join ws [32] := by
  cases ws with
  | nil => exact absurd rfl h
  | cons w ws => rw [Lib.join_cons, joinTail_spaced, spaced]
theorem spaced_own {k n : Int} {m : ByteArray} {ts : List (Int × Int)} (h3 : 3 ≤ k) (ht : k ≠ 10 → ts = []) : spaced (ownW k n m ts) = wrO k n ts := by
  unfold ownW wrO
  by_cases k6 : k = 6
  · subst k6
    obtain rfl := ht (by omega)
    simp [spaced, wrT]
  · rw [if_neg (by omega), if_neg (by omega), if_neg k6]
    by_cases k10 : k = 10
    · rw [if_pos k10, spaced_wrT]; rfl
    · rw [if_neg k10, ht k10]; rfl
theorem wordsW_eq {k n : Int} {m : ByteArray} {ks : List Ex} {ts : List (Int × Int)} (h3 : 3 ≤ k) (ht : k ≠ 10 → ts = []) (hk : ks ≠ []) :
    32 :: Lib.join (ks.map wr ++ ownW k n m ts) [32] = wrS ks ++ wrO k n ts := by
  rw [← spaced_join (by simp [hk]), spaced_append, spaced_wrS, spaced_own h3 ht]
end Go.Proofs.YtnchgeiinkaefaaGreatDoor.Rule
end

section
/-
  impl.RuleStep: the iterator over steps, and the loop over it.
-/
namespace Go.Proofs.YtnchgeiinkaefaaGreatDoor.Tiers
set_option linter.unusedVariables false
open Go.RowKit Coin Go.Shelf

attribute [local go_sem] Oper.semAt_some

/-- what is yielded: how many units, and their price -/
def unitsF : List T → Int → List T
  | [], q => []
  | t :: ts, q => if q ≤ 0 then [] else (nOf t.1 q, t.2) :: unitsF ts (q - nOf t.1 q)
/-- all of it added up -/
def accF : List T → Int → Option Int
  | [], out => some out
  | p :: ps, out => if fitB p.1 p.2 = true ∧ addB out (p.1 * p.2) = true then accF ps (out + p.1 * p.2) else none
theorem acc_units : ∀ (l : List T) (q out : Int), accF (unitsF l q) out = stepF l q out
  | [], q, out => rfl
  | t :: ts, q, out => by
    unfold unitsF stepF
    by_cases h : q ≤ 0
    · rw [if_pos h, if_pos h]; rfl
    · rw [if_neg h, if_neg h, accF]
      simp only [acc_units ts]
theorem acc_append : ∀ (a b : List T) (out : Int), accF (a ++ b) out = (accF a out).bind (accF b)
  | [], b, out => rfl
  | p :: ps, b, out => by
    rw [List.cons_append, accF, accF]
    split
    · exact acc_append ps b _
    · rfl
theorem units_end (l : List T) {q : Int} (h : q ≤ 0) : unitsF l q = [] := by cases l <;> simp [unitsF, h]
theorem units_go {l : List T} {k : Nat} {q : Int} (hk : k < l.length) (hq : 0 < q) : unitsF (l.drop k) q = (nOf (l.getD k T0).1 q, (l.getD k T0).2) :: unitsF (l.drop (k + 1)) (q - nOf (l.getD k T0).1 q) := by
  rw [show l.drop k = l.getD k T0 :: l.drop (k + 1) from drop_at hk, unitsF, if_neg (by omega)]
theorem grown_alloc (w : World) (o : Obj) : w.grownBy (w.alloc o) none := ⟨rfl, rfl, rfl, by simp, fun j hj _ => Below.heap_alloc w o j hj⟩

set_option maxRecDepth 100000 in
set_option maxHeartbeats 2000000 in
/-- the closure that stepsOf hands out, for every loop body that keeps what lay below n0 -/
theorem steps1 (n : Nat) (hn : 1 ≤ n) (lp Bq Bt n0 b o cap : Nat) (l : List T) (q : Int) (hl : l.length ≤ 6) (q1 : -1000000000000000 ≤ q) (q2 : q ≤ 1000000000000000) (hb : b < n0) (hat : Hid (∀ k, k < l.length → 0 ≤ (l.getD k T0).1 ∧ (l.getD k T0).1 ≤ 1000000000)) (J Jx : List T → World → Prop)
    (W : World) (hn0 : n0 ≤ W.heap.size) (hJa : AbidesFrom W.heap.size J)
    (hY : ∀ pre x W1, J pre W1 → pre.length < l.length → YieldAt Fence.wide (n - 1) Tryz.prog lp #[.int .i64 x.1, .int .i64 x.2] W1 fun e W' =>
      (e = .returned (.bool true) ∧ J (pre ++ [x]) W' ∧ Below n0 W1 W') ∨ (e = .returned (.bool false) ∧ Jx (pre ++ [x]) W'))
    (hBq : W.cell? ⟨Bq, 0, none⟩ = some (.int .i64 q)) (hBt : W.cell? ⟨Bt, 0, none⟩ = some (.slice (some ⟨b, o, none⟩) l.length cap)) (hc : Hid (TC W b o l)) (h0 : J [] W) :
    CallsIn Fence.wide n Tryz.prog 285 #[.func (.yield lp) #[] #[], .pointer (some ⟨Bq, 0, none⟩), .pointer (some ⟨Bt, 0, none⟩)] W fun e W' => (∃ v, e = .returned v) ∧
      ((∃ ys, ys = unitsF l q ∧ J ys W') ∨ (∃ pre, pre <+: unitsF l q ∧ Jx pre W')) := by
  have HJ := hide hJa
  have HY := hide hY
  have H0 := hide h0
  clear hJa hY h0
  refine callsIn_of_wp Tryz.func285 rfl trivial ?_ rfl
  simp only [Tryz.ntmps285, List.size_toArray, List.length_cons, List.length_nil, Nat.reduceAdd, Nat.reduceSub, Array.replicate_succ, Array.replicate_zero, List.push_toArray, List.append_toArray, List.nil_append, List.cons_append]
  gi_wp2
  gi_loopw [4, 11] (fun t i wr => ∃ (k : Nat) (q' : Int) (pre : List T), k ≤ l.length ∧ i = .int .i64 k ∧ t = .int .i64 q' ∧ -1000000000000000 ≤ q' ∧ q' ≤ 1000000000000000 ∧ Hid (pre.length = k) ∧ Hid (unitsF l q = pre ++ unitsF (l.drop k) q') ∧ Hid (J pre wr) ∧ Hid (Below n0 W wr)) (fun _ i _ => l.length - (intOf i).toNat)
  case atStart => exact ⟨0, q, [], Nat.zero_le _, rfl, rfl, q1, q2, hide rfl, hide rfl, H0, hide (Below.refl _ _)⟩
  case round =>
    obtain ⟨k, q', pre, hk, rfl, rfl, p1, p2, hpl, hu, hJs, hnx⟩ := hrel
    by_cases hlt : k < l.length
    · obtain ⟨c0', c1'⟩ := (unhide hc).2 k hlt
      have c0 : wr.cell? ⟨b, o + k * 2, none⟩ = some (.int .i64 (l.getD k T0).1) := ((unhide hnx).cell (p := ⟨b, o + k * 2, none⟩) hb).trans c0'
      have c1 : wr.cell? ⟨b, o + k * 2 + 1, none⟩ = some (.int .i64 (l.getD k T0).2) := ((unhide hnx).cell (p := ⟨b, o + k * 2 + 1, none⟩) hb).trans c1'
      have hat' := unhide hat k hlt
      clear c0' c1'
      by_cases hpos : 0 < q'
      · have HG := hide (units_go (q := q') hlt hpos)
        generalize l.getD k T0 = t at *
        obtain ⟨x, y⟩ := t
        simp only at c0 c1 hat' HG
        obtain ⟨x1, x2⟩ := hat'
        by_cases hx : 0 < x ∧ x < q'
        · rw [nOf_small hx.1 hx.2] at HG
          have b0 : (x != 0) = true := bne_iff_ne.2 (by omega)
          obtain ⟨hx1, hx2⟩ := hx
          have hm : min q' x = x := by omega
          obtain ⟨fn, tmps, assign, body, hy, hR⟩ := unhide HY pre (x, y) (wr.alloc (.cells #[.int .i64 x, .int .i64 y] 184)) (unhide HJ pre wr _ none (unhide hJs) (grown_alloc _ _) (by simp)) (by have := unhide hpl; omega)
          dsimp only at hy
          have HR := hide hR
          clear hR
          gi_wp2
          refine (unhide HR).mono ?_
          rintro e W3 (⟨rfl, hJ3, hk3⟩ | ⟨rfl, hJx3⟩)
          · have HJ3 := hide hJ3
            have HK3 : Hid (Below n0 W W3) := hide (((unhide hnx).alloc (Nat.le_trans hn0 (unhide hnx).size) _).trans hk3)
            have HU : Hid (unitsF l q = (pre ++ [(x, y)]) ++ unitsF (l.drop (k + 1)) (q' - x)) := hide (by rw [unhide hu, unhide HG]; simp)
            have HL : Hid ((pre ++ [(x, y)]).length = k + 1) := hide (by have := unhide hpl; simp; omega)
            clear hJ3 hk3
            gi_wp2
            go_roundw
            case rel => exact ⟨k + 1, q' - x, pre ++ [(x, y)], by omega, by go_num, rfl, by omega, by omega, HL, HU, HJ3, HK3⟩
            case measure => simp [intOf]; omega
          · have HJ3 := hide hJx3
            clear hJx3
            gi_wp2
            refine bodyPost_ret (results_none rfl _ _ _) rfl ?_
            exact ⟨⟨_, rfl⟩, .inr ⟨_, ⟨unitsF (l.drop (k + 1)) (q' - x), by rw [unhide hu, unhide HG]; simp⟩, unhide HJ3⟩⟩
        · rw [nOf_all hx] at HG
          by_cases hx0 : x = 0
          · have b0 : (x != 0) = false := by simp [hx0]
            clear hx0 hx
            have hq0 : 0 ≤ q' := by omega
            obtain ⟨fn, tmps, assign, body, hy, hR⟩ := unhide HY pre (q', y) (wr.alloc (.cells #[.int .i64 x, .int .i64 y] 184)) (unhide HJ pre wr _ none (unhide hJs) (grown_alloc _ _) (by simp)) (by have := unhide hpl; omega)
            dsimp only at hy
            have HR := hide hR
            clear hR
            gi_wp2
            refine (unhide HR).mono ?_
            rintro e W3 (⟨rfl, hJ3, hk3⟩ | ⟨rfl, hJx3⟩)
            · have HJ3 := hide hJ3
              have HK3 : Hid (Below n0 W W3) := hide (((unhide hnx).alloc (Nat.le_trans hn0 (unhide hnx).size) _).trans hk3)
              have HU : Hid (unitsF l q = (pre ++ [(q', y)]) ++ unitsF (l.drop (k + 1)) (q' - q')) := hide (by rw [unhide hu, unhide HG]; simp)
              have HL : Hid ((pre ++ [(q', y)]).length = k + 1) := hide (by have := unhide hpl; simp; omega)
              clear hJ3 hk3
              gi_wp2
              go_roundw
              case rel => exact ⟨k + 1, q' - q', pre ++ [(q', y)], by omega, by go_num, by simp, by omega, by omega, HL, HU, HJ3, HK3⟩
              case measure => simp [intOf]; omega
            · have HJ3 := hide hJx3
              clear hJx3
              gi_wp2
              refine bodyPost_ret (results_none rfl _ _ _) rfl ?_
              exact ⟨⟨_, rfl⟩, .inr ⟨_, ⟨unitsF (l.drop (k + 1)) (q' - q'), by rw [unhide hu, unhide HG]; simp⟩, unhide HJ3⟩⟩
          · have b0 : (x != 0) = true := bne_iff_ne.2 hx0
            have hm : min q' x = q' := by omega
            have hx2 : q' ≤ x := by omega
            clear hx0 hx
            have hq0 : 0 ≤ q' := by omega
            obtain ⟨fn, tmps, assign, body, hy, hR⟩ := unhide HY pre (q', y) (wr.alloc (.cells #[.int .i64 x, .int .i64 y] 184)) (unhide HJ pre wr _ none (unhide hJs) (grown_alloc _ _) (by simp)) (by have := unhide hpl; omega)
            dsimp only at hy
            have HR := hide hR
            clear hR
            gi_wp2
            refine (unhide HR).mono ?_
            rintro e W3 (⟨rfl, hJ3, hk3⟩ | ⟨rfl, hJx3⟩)
            · have HJ3 := hide hJ3
              have HK3 : Hid (Below n0 W W3) := hide (((unhide hnx).alloc (Nat.le_trans hn0 (unhide hnx).size) _).trans hk3)
              have HU : Hid (unitsF l q = (pre ++ [(q', y)]) ++ unitsF (l.drop (k + 1)) (q' - q')) := hide (by rw [unhide hu, unhide HG]; simp)
              have HL : Hid ((pre ++ [(q', y)]).length = k + 1) := hide (by have := unhide hpl; simp; omega)
              clear hJ3 hk3
              gi_wp2
              go_roundw
              case rel => exact ⟨k + 1, q' - q', pre ++ [(q', y)], by omega, by go_num, by simp, by omega, by omega, HL, HU, HJ3, HK3⟩
              case measure => simp [intOf]; omega
            · have HJ3 := hide hJx3
              clear hJx3
              gi_wp2
              refine bodyPost_ret (results_none rfl _ _ _) rfl ?_
              exact ⟨⟨_, rfl⟩, .inr ⟨_, ⟨unitsF (l.drop (k + 1)) (q' - q'), by rw [unhide hu, unhide HG]; simp⟩, unhide HJ3⟩⟩
      · have hq' : q' ≤ 0 := by omega
        have HE : Hid (unitsF l q = pre) := hide (by rw [unhide hu, units_end _ hq']; simp)
        have HJ2 := fun o => hide (unhide HJ pre wr (wr.alloc o) none (unhide hJs) (grown_alloc _ _) (by simp))
        gi_wp2
        refine bodyPost_ret (results_none rfl _ _ _) rfl ?_
        exact ⟨⟨_, rfl⟩, .inl (by rw [unhide HE]; exact unhide (HJ2 _))⟩
    · have HE : Hid (unitsF l q = pre) := hide (by rw [unhide hu, List.drop_eq_nil_of_le (by omega)]; simp [unitsF])
      gi_wp2
      go_end0
      exact ⟨⟨_, rfl⟩, .inl ⟨_, (unhide HE).symm, unhide hJs⟩⟩

/-- what stepsOf hands out, as the loop over it wants it -/
theorem steps_stops (n : Nat) (hn : 1 ≤ n) (Bq Bt n0 b o cap : Nat) (l : List T) (q : Int) (hl : l.length ≤ 6) (q1 : -1000000000000000 ≤ q) (q2 : q ≤ 1000000000000000) (hb : b < n0) (hat : Hid (∀ k, k < l.length → 0 ≤ (l.getD k T0).1 ∧ (l.getD k T0).1 ≤ 1000000000))
    (w : World) (hBqs : Bq < w.heap.size) (hBts : Bt < w.heap.size) (hn0 : n0 ≤ w.heap.size)
    (hBq : w.cell? ⟨Bq, 0, none⟩ = some (.int .i64 q)) (hBt : w.cell? ⟨Bt, 0, none⟩ = some (.slice (some ⟨b, o, none⟩) l.length cap)) (hc : TC w b o l) :
    SeqStopsK Fence.wide n Tryz.prog 285 #[.pointer (some ⟨Bq, 0, none⟩), .pointer (some ⟨Bt, 0, none⟩)] (fun x : T => #[Value.int .i64 x.1, Value.int .i64 x.2]) (Below n0) (fun ys => ys = unitsF l q) (fun pre => pre <+: unitsF l q) l.length w :=
  fun lp J Jx W hW hJ _ hY h0 =>
    steps1 n hn lp Bq Bt n0 b o cap l q hl q1 q2 hb hat J Jx W (Nat.le_trans hn0 hW.size) hJ hY ((hW.cell (p := ⟨Bq, 0, none⟩) hBqs).trans hBq) ((hW.cell (p := ⟨Bt, 0, none⟩) hBts).trans hBt) (hide (hc.kept hW)) h0

/-- impl.stepsOf -/
theorem stepsOf (n : Nat) (v : Value) (hv : v.oneCell' = true) (q : Int) (w : World) :
    CallsIn Fence.wide n Tryz.prog 284 #[v, .int .i64 q] w fun e w' => e = .returned (.func (.func 285) #[] #[.pointer (some ⟨w.heap.size + 1, 0, none⟩), .pointer (some ⟨w.heap.size, 0, none⟩)]) ∧ w' = (w.alloc (.cells #[v] 75)).alloc (.cells #[.int .i64 q] 3) := by
  refine callsIn_of_wp Tryz.func284 rfl trivial ?_ rfl
  simp only [Tryz.ntmps284, List.size_toArray, List.length_cons, List.length_nil, Nat.reduceAdd, Nat.reduceSub, Array.replicate_succ, Array.replicate_zero, List.push_toArray, List.append_toArray, List.nil_append, List.cons_append]
  gi_wp2
  trace_state
  go_ret
  exact ⟨rfl, rfl⟩
end Go.Proofs.YtnchgeiinkaefaaGreatDoor.Tiers
end

section
/-
  impl.RuleStep: what it answers.
-/
namespace Go.Proofs.YtnchgeiinkaefaaGreatDoor.Tiers
set_option linter.unusedVariables false
open Go.RowKit Coin Go.Shelf

attribute [local go_sem] Oper.semAt_some

theorem new1 (w : World) (a : Value) (t : TypeId) : (w.alloc (.cells #[a] t)).cell? ⟨w.heap.size, 0, none⟩ = some a ∧ (w.alloc (.cells #[a] t)).frozen? ⟨w.heap.size, 0, none⟩ = false := by
  have e1 := (MapKept.heap_alloc w (.cells #[a] t)).1
  simp only [World.cell?, World.frozen?]
  rw [e1]; simp
/-- two new variables, and what is kept of them -/
theorem new2 (w w1 : World) (a b : Value) (t u : TypeId) (hb : Below ((w.alloc (.cells #[a] t)).alloc (.cells #[b] u)).heap.size ((w.alloc (.cells #[a] t)).alloc (.cells #[b] u)) w1) :
    w1.cell? ⟨w.heap.size, 0, none⟩ = some a ∧ w1.frozen? ⟨w.heap.size, 0, none⟩ = false ∧ w1.cell? ⟨w.heap.size + 1, 0, none⟩ = some b ∧ w1.frozen? ⟨w.heap.size + 1, 0, none⟩ = false ∧ w.heap.size + 1 < w1.heap.size ∧ Below w.heap.size w w1 := by
  have n1 := new1 w a t
  have n2 := new1 (w.alloc (.cells #[a] t)) b u
  rw [World.size_alloc] at n2
  have hz := hb.size
  simp only [World.size_alloc] at hz
  have k1 : Below (w.heap.size + 1) (w.alloc (.cells #[a] t)) ((w.alloc (.cells #[a] t)).alloc (.cells #[b] u)) := (Below.refl _ _).alloc (by simp) _
  refine ⟨?_, ?_, ?_, ?_, by omega, ?_⟩
  · rw [hb.cell (p := ⟨w.heap.size, 0, none⟩) (by simp; omega), k1.cell (p := ⟨w.heap.size, 0, none⟩) (by simp)]; exact n1.1
  · rw [hb.frozen (p := ⟨w.heap.size, 0, none⟩) (by simp; omega), k1.frozen (p := ⟨w.heap.size, 0, none⟩) (by simp)]; exact n1.2
  · rw [hb.cell (p := ⟨w.heap.size + 1, 0, none⟩) (by simp)]; exact n2.1
  · rw [hb.frozen (p := ⟨w.heap.size + 1, 0, none⟩) (by simp)]; exact n2.2
  · exact (((Below.refl _ w).alloc (Nat.le_refl _) _).alloc (by simp) _).trans (hb.mono (by simp; omega))

set_option maxRecDepth 100000 in
set_option maxHeartbeats 2000000 in
theorem stepI_bad1 (v : Value) (l : List T) (q : Int) (w : World) (h : TR w v l) (hl : l.length ≤ 1048576) (hr : rightB l = false) :
    Calls Tryz.prog 282 #[v, .int .i64 q] w fun e w' => e = .returned (.tuple #[.int .i64 0, .bool false]) ∧ Below w.heap.size w w' := by
  have H := hide h
  clear h
  refine (callsIn_wide (n := 5)).1 ?_
  refine callsIn_of_wp_marks Tryz.func282 rfl trivial ?_ rfl
  simp only [Tryz.ntmps282, List.size_toArray, List.length_cons, List.length_nil, Nat.reduceAdd, Nat.reduceSub, Array.replicate_succ, Array.replicate_zero, List.push_toArray, List.append_toArray, List.nil_append, List.cons_append]
  gi_wp2_with (fail)
  refine ⟨trivial, (callsIn_wide.2 (rightI v l _ ((unhide H).kept (((Below.refl _ _).alloc (Nat.le_refl _) _).alloc (by simp) _)) hl)).mono ?_⟩
  rintro e w1 ⟨rfl, hb⟩
  obtain ⟨c4, f4, c5, f5, hz, hB⟩ := new2 _ _ _ _ _ _ hb
  have HB := hide hB
  clear hb hB
  gi_wp2_with (fail)
  refine ⟨trivial, ?_⟩
  gi_wp2_with (fail)
  refine ⟨.tuple #[.int .i64 0, .bool false], ?_, rfl, ((unhide HB).setCell (p := ⟨w.heap.size, 0, none⟩) (Nat.le_refl _) _).setCell (p := ⟨w.heap.size + 1, 0, none⟩) (by simp) _⟩
  simp [results, Tryz.results282, go_sem, c4, c5]

set_option maxRecDepth 100000 in
set_option maxHeartbeats 2000000 in
theorem stepI_bad2 (v : Value) (l : List T) (q : Int) (w : World) (h : TR w v l) (hl : l.length ≤ 1048576) (hr : rightB l = true) (hq : okB q = false) :
    Calls Tryz.prog 282 #[v, .int .i64 q] w fun e w' => e = .returned (.tuple #[.int .i64 0, .bool false]) ∧ Below w.heap.size w w' := by
  have H := hide h
  clear h
  refine (callsIn_wide (n := 5)).1 ?_
  refine callsIn_of_wp_marks Tryz.func282 rfl trivial ?_ rfl
  simp only [Tryz.ntmps282, List.size_toArray, List.length_cons, List.length_nil, Nat.reduceAdd, Nat.reduceSub, Array.replicate_succ, Array.replicate_zero, List.push_toArray, List.append_toArray, List.nil_append, List.cons_append]
  gi_wp2_with (fail)
  refine ⟨trivial, (callsIn_wide.2 (rightI v l _ ((unhide H).kept (((Below.refl _ _).alloc (Nat.le_refl _) _).alloc (by simp) _)) hl)).mono ?_⟩
  rintro e w1 ⟨rfl, hb⟩
  obtain ⟨c4, f4, c5, f5, hz, hB⟩ := new2 _ _ _ _ _ _ hb
  have HB := hide hB
  clear hb hB
  gi_wp2_with (fail)
  refine ⟨trivial, (callsIn_wide.2 (okI q _)).mono ?_⟩
  rintro e w2 ⟨rfl, rfl⟩
  gi_wp2_with (fail)
  refine ⟨.tuple #[.int .i64 0, .bool false], ?_, rfl, ((unhide HB).setCell (p := ⟨w.heap.size, 0, none⟩) (Nat.le_refl _) _).setCell (p := ⟨w.heap.size + 1, 0, none⟩) (by simp) _⟩
  simp [results, Tryz.results282, go_sem, c4, c5]

set_option maxRecDepth 100000 in
set_option maxHeartbeats 2000000 in
theorem stepI_ok (b o cap : Nat) (l : List T) (q : Int) (w : World) (h : TC w b o l) (hr : rightB l = true) (hq : okB q = true) :
    Calls Tryz.prog 282 #[.slice (some ⟨b, o, none⟩) l.length cap, .int .i64 q] w fun e w' => e = .returned (.tuple #[.int .i64 (stepV l q), .bool (stepB l q)]) ∧ Below w.heap.size w w' := by
  obtain ⟨z1, z2⟩ := rightB_len hr
  obtain ⟨q1, q2⟩ := okB_bd hq
  have HV : Hid (∀ x, stepF l q 0 = some x → stepB l q = true ∧ stepV l q = x) := hide (fun x hx => stepB_some hr hq hx)
  have HN : Hid (stepF l q 0 = none → stepB l q = false ∧ stepV l q = 0) := hide stepB_none
  have HAT : Hid (∀ k, k < l.length → 0 ≤ (l.getD k T0).1 ∧ (l.getD k T0).1 ≤ 1000000000) := hide (fun k hk => ⟨(okT_of (rightB_at hr hk)).2.1, (okT_of (rightB_at hr hk)).2.2.1⟩)
  generalize stepB l q = rb at *
  generalize stepV l q = rv at *
  have H := hide h
  clear h
  refine (callsIn_wide (n := 5)).1 ?_
  refine callsIn_of_wp_marks Tryz.func282 rfl trivial ?_ rfl
  simp only [Tryz.ntmps282, List.size_toArray, List.length_cons, List.length_nil, Nat.reduceAdd, Nat.reduceSub, Array.replicate_succ, Array.replicate_zero, List.push_toArray, List.append_toArray, List.nil_append, List.cons_append]
  gi_wp2_with (fail)
  refine ⟨trivial, (callsIn_wide.2 (rightI _ l _ (.inr ⟨b, o, cap, rfl, (unhide H).kept (((Below.refl _ _).alloc (Nat.le_refl _) _).alloc (by simp) _)⟩) (by omega))).mono ?_⟩
  rintro e w1 ⟨rfl, hb⟩
  obtain ⟨c4, f4, c5, f5, hz, hB⟩ := new2 _ _ _ _ _ _ hb
  have HB := hide hB
  have H1 := hide ((unhide H).kept hB)
  have hbw : b < w.heap.size := (unhide H).1
  clear hb hB H
  gi_wp2_with (fail)
  refine ⟨trivial, (callsIn_wide.2 (okI q _)).mono ?_⟩
  rintro e w2 ⟨rfl, rfl⟩
  gi_wp2_with (fail)
  refine ⟨trivial, (stepsOf 4 _ rfl q _).mono ?_⟩
  rintro e w3 ⟨rfl, rfl⟩
  gi_wp2_with (fail)
  have n6 := new1 w2 (.int .i64 0) 3
  have n7 := new1 (w2.alloc (.cells #[.int .i64 0] 3)) (.slice (some ⟨b, o, none⟩) l.length cap) 75
  have n8 := new1 ((w2.alloc (.cells #[.int .i64 0] 3)).alloc (.cells #[.slice (some ⟨b, o, none⟩) l.length cap] 75)) (.int .i64 q) 3
  simp only [World.size_alloc] at n7 n8
  obtain ⟨W0, hW0⟩ : ∃ W0, ((w2.alloc (.cells #[.int .i64 0] 3)).alloc (.cells #[.slice (some ⟨b, o, none⟩) l.length cap] 75)).alloc (.cells #[.int .i64 q] 3) = W0 := ⟨_, rfl⟩
  have k1 : Below w2.heap.size w2 W0 := by rw [← hW0]; exact (((Below.refl _ _).alloc (Nat.le_refl _) _).alloc (by simp) _).alloc (by simp; omega) _
  have k2 : Below (w2.heap.size + 1) (w2.alloc (.cells #[.int .i64 0] 3)) W0 := by rw [← hW0]; exact ((Below.refl _ _).alloc (by simp) _).alloc (by simp) _
  have k3 : Below (w2.heap.size + 1 + 1) ((w2.alloc (.cells #[.int .i64 0] 3)).alloc (.cells #[.slice (some ⟨b, o, none⟩) l.length cap] 75)) W0 := by rw [← hW0]; exact (Below.refl _ _).alloc (by simp) _
  have hsz : W0.heap.size = w2.heap.size + 3 := by rw [← hW0]; simp
  have hB0 : Below w.heap.size w W0 := (unhide HB).trans (k1.mono (unhide HB).size)
  have d6 : W0.cell? ⟨w2.heap.size, 0, none⟩ = some (.int .i64 0) := (k2.cell (p := ⟨w2.heap.size, 0, none⟩) (by simp)).trans n6.1
  have e6 : W0.frozen? ⟨w2.heap.size, 0, none⟩ = false := (k2.frozen (p := ⟨w2.heap.size, 0, none⟩) (by simp)).trans n6.2
  have d7 : W0.cell? ⟨w2.heap.size + 1, 0, none⟩ = some (.slice (some ⟨b, o, none⟩) l.length cap) := (k3.cell (p := ⟨w2.heap.size + 1, 0, none⟩) (by simp)).trans n7.1
  have d8 : W0.cell? ⟨w2.heap.size + 1 + 1, 0, none⟩ = some (.int .i64 q) := by rw [← hW0]; exact n8.1
  have d4 : W0.cell? ⟨w.heap.size, 0, none⟩ = some (.int .i64 0) := (k1.cell (p := ⟨w.heap.size, 0, none⟩) (by simp; omega)).trans c4
  have e4 : W0.frozen? ⟨w.heap.size, 0, none⟩ = false := (k1.frozen (p := ⟨w.heap.size, 0, none⟩) (by simp; omega)).trans f4
  have d5 : W0.cell? ⟨w.heap.size + 1, 0, none⟩ = some (.bool false) := (k1.cell (p := ⟨w.heap.size + 1, 0, none⟩) (by simp; omega)).trans c5
  have e5 : W0.frozen? ⟨w.heap.size + 1, 0, none⟩ = false := (k1.frozen (p := ⟨w.heap.size + 1, 0, none⟩) (by simp; omega)).trans f5
  have H0 := (unhide H1).kept k1
  rw [hW0]
  have hS : Hid (w2.heap.size = w2.heap.size) := hide rfl
  generalize w2.heap.size = S at *
  clear n6 n7 n8 hW0 k1 k2 k3 c4 c5 f4 f5 H1 HB hr hq hS
  refine wpIn_rangeFunc_ownF rfl (by omega) (gf := 285) (lb := #[.pointer (some ⟨S + 1 + 1, 0, none⟩), .pointer (some ⟨S + 1, 0, none⟩)]) rfl trivial (enters_of Tryz.func285 (by kernel_rfl) rfl)
    (steps_stops 4 (by omega) (S + 1 + 1) (S + 1) S b o cap l q z2 q1 q2 (by omega) HAT W0 (by omega) (by omega) (by omega) d8 d7 H0) belowK_t (belowK_b (by omega)) (Below.refl _ _) (fun _ => rfl)
    (fun pre W => ((∃ s, accF pre 0 = some s ∧ -1000000000000000 ≤ s ∧ s ≤ 1000000000000000 ∧ W.cell? ⟨S, 0, none⟩ = some (.int .i64 s)) ∧ W.frozen? ⟨S, 0, none⟩ = false ∧ W.cell? ⟨w.heap.size, 0, none⟩ = some (.int .i64 0) ∧ W.frozen? ⟨w.heap.size, 0, none⟩ = false ∧ W.cell? ⟨w.heap.size + 1, 0, none⟩ = some (.bool false) ∧ W.frozen? ⟨w.heap.size + 1, 0, none⟩ = false) ∧ Below w.heap.size w W)
    (fun c pre W => (c = .ret ∧ accF pre 0 = none ∧ W.cell? ⟨w.heap.size, 0, none⟩ = some (.int .i64 0) ∧ W.cell? ⟨w.heap.size + 1, 0, none⟩ = some (.bool false)) ∧ Below w.heap.size w W)
    (OwnFrom.and (Own.from (fun s A B row hs hg hr => by
      obtain ⟨⟨s, h1, h2, h3, h4⟩, h5, h6, h7, h8, h9⟩ := hs
      exact ⟨⟨s, h1, h2, h3, cell_kept h4 hg hr⟩, (frozen_kept h4 hg hr).trans h5, cell_kept h6 hg hr, (frozen_kept h6 hg hr).trans h7, cell_kept h8 hg hr, (frozen_kept h8 hg hr).trans h9⟩) _) (ownFrom_below (Nat.le_refl _) (by omega)))
    (fun c => OwnFrom.and (Own.from (fun s A B row hs hg hr => ⟨hs.1, hs.2.1, cell_kept hs.2.2.1 hg hr, cell_kept hs.2.2.2 hg hr⟩) _) (ownFrom_below (Nat.le_refl _) (by omega)))
    ⟨⟨⟨0, rfl, by omega, by omega, d6⟩, e6, d4, e4, d5, e5⟩, hB0⟩
    (fun x => { tmps := #[.slice (some ⟨b, o, none⟩) l.length cap, .int .i64 q, undef, undef, .pointer (some ⟨w.heap.size, 0, none⟩), .pointer (some ⟨w.heap.size + 1, 0, none⟩), .pointer (some ⟨S, 0, none⟩), .int .i64 x.1, .int .i64 x.2, undef, undef,
      .slice (some ⟨b, o, none⟩) l.length cap, .bool true, .bool false, .bool false, .int .i64 q, .bool true, .bool false, .bool false, .slice (some ⟨b, o, none⟩) l.length cap, .int .i64 q, .func (.func 285) #[] #[.pointer (some ⟨S + 1 + 1, 0, none⟩), .pointer (some ⟨S + 1, 0, none⟩)], .int .i64 x.1, .int .i64 x.2,
      undef, undef, undef, undef, undef, undef, undef, undef, undef, undef, undef, undef, undef, undef, undef, undef, undef], defers := [] }) ?assign ?body ?done ?stop
  case assign =>
    intro lp x W K hK
    gi_wp2
    exact hK
  case body =>
    rintro lp pre ⟨m, y⟩ W ⟨⟨⟨s, ha, s1, s2, hc6⟩, hf6, hc4, hf4, hc5, hf5⟩, hB⟩ hlen
    have HA := hide ha
    clear ha
    dsimp only
    have g1 : ¬ S = w.heap.size := by omega
    have g2 : ¬ S = w.heap.size + 1 := by omega
    have g3 : ¬ w.heap.size = S := by omega
    have g4 : ¬ w.heap.size + 1 = S := by omega
    gi_wp2_with (fail)
    refine ⟨trivial, (CallsIn.inRound lp (callsIn_wide.2 (timesI m y _))).mono ?_⟩
    rintro e w3 ⟨rfl, rfl⟩
    cases hf : fitB m y
    · have HX : Hid (accF (pre ++ [(m, y)]) 0 = none) := hide (by rw [acc_append, unhide HA]; simp [accF, hf])
      generalize timesV m y = tv at *
      gi_wp2_with (fail)
      exact ⟨(KeepsOthers.setCell _ _ _).trans (KeepsOthers.setCell _ _ _), ⟨rfl, unhide HX, by rw [World.cell?_setCell_other _ _ _ _ (by simp)]; exact World.cell?_setCell_same _ _ _ hc4, World.cell?_setCell_same _ _ _ (by rw [World.cell?_setCell_other _ _ _ _ (by simp)]; exact hc5)⟩, (hB.setCell (p := ⟨w.heap.size, 0, none⟩) (Nat.le_refl _) _).setCell (p := ⟨w.heap.size + 1, 0, none⟩) (by simp) _⟩
    · rw [timesV_yes hf]
      have HX : Hid (∀ c, addB s (m * y) = false → accF (pre ++ [(m, y)]) 0 = c → c = none) := hide (fun c hc e => by rw [← e, acc_append, unhide HA]; simp [accF, hc])
      have HY : Hid (addB s (m * y) = true → accF (pre ++ [(m, y)]) 0 = some (s + m * y)) := hide (fun hc => by rw [acc_append, unhide HA]; simp [accF, hc, hf])
      generalize hp : m * y = pr at *
      clear hp
      gi_wp2_with (fail)
      refine ⟨trivial, (CallsIn.inRound lp (callsIn_wide.2 (addI s pr _))).mono ?_⟩
      rintro e w4 ⟨rfl, rfl⟩
      cases hadd : addB s pr
      · rw [addV_no hadd]
        have HZ : Hid (accF (pre ++ [(m, y)]) 0 = none) := hide (unhide HX _ hadd rfl)
        clear HX HY
        gi_wp2_with (fail)
        refine ⟨((KeepsOthers.setCell _ _ _).trans (KeepsOthers.setCell _ _ _)).trans (KeepsOthers.setCell _ _ _), ⟨rfl, unhide HZ, ?_, ?_⟩, ((hB.setCell (p := ⟨S, 0, none⟩) (by simp; omega) _).setCell (p := ⟨w.heap.size, 0, none⟩) (Nat.le_refl _) _).setCell (p := ⟨w.heap.size + 1, 0, none⟩) (by simp) _⟩
        · rw [World.cell?_setCell_other _ _ _ _ (by simp)]
          exact World.cell?_setCell_same _ _ _ (by rw [World.cell?_setCell_other _ _ _ _ (by simp)]; exact hc4)
        · exact World.cell?_setCell_same _ _ _ (by rw [World.cell?_setCell_other _ _ _ _ (by simp), World.cell?_setCell_other _ _ _ _ (by simp)]; exact hc5)
      · rw [addV_yes hadd]
        have HZ : Hid (accF (pre ++ [(m, y)]) 0 = some (s + pr)) := hide (unhide HY hadd)
        obtain ⟨b1, b2⟩ := okB_bd (addB_parts hadd).2.2
        clear HX HY
        gi_wp2_with (fail)
        refine ⟨KeepsOthers.setCell _ _ _, (Below.refl S _).setCell (p := ⟨S, 0, none⟩) (Nat.le_refl _) _, ⟨⟨s + pr, unhide HZ, b1, b2, World.cell?_setCell_same _ _ _ hc6⟩, by rw [World.frozen?_setCell]; exact hf6, ?_, by rw [World.frozen?_setCell]; exact hf4, ?_, by rw [World.frozen?_setCell]; exact hf5⟩, hB.setCell (p := ⟨S, 0, none⟩) (by simp; omega) _⟩
        · rw [World.cell?_setCell_other _ _ _ _ (by simp)]; exact hc4
        · rw [World.cell?_setCell_other _ _ _ _ (by simp)]; exact hc5
  case done =>
    rintro D ys W hD rfl ⟨⟨⟨s, ha, s1, s2, hc6⟩, hf6, hc4, hf4, hc5, hf5⟩, hB⟩ hK
    rw [acc_units] at ha
    obtain ⟨rfl, rfl⟩ := unhide HV _ ha
    have HA := hide ha
    clear ha HV HN
    have g1 : ¬ S = w.heap.size := by omega
    have g2 : ¬ S = w.heap.size + 1 := by omega
    gi_wp2_with (fail)
    have hK' := ((KeepsOthers.setCell W ⟨w.heap.size, 0, none⟩ (.int .i64 rv)).trans (KeepsOthers.setCell _ ⟨w.heap.size + 1, 0, none⟩ (.bool true))).same D _ hK rfl
    refine ⟨by simp, .inl ⟨_, _, rfl, run_takeDeferred hK', ?_⟩⟩
    have q4 : ((W.setCell ⟨w.heap.size, 0, none⟩ (.int .i64 rv)).setCell ⟨w.heap.size + 1, 0, none⟩ (.bool true)).cell? ⟨w.heap.size, 0, none⟩ = some (.int .i64 rv) := by rw [World.cell?_setCell_other _ _ _ _ (by simp)]; exact World.cell?_setCell_same _ _ _ hc4
    have q5 : ((W.setCell ⟨w.heap.size, 0, none⟩ (.int .i64 rv)).setCell ⟨w.heap.size + 1, 0, none⟩ (.bool true)).cell? ⟨w.heap.size + 1, 0, none⟩ = some (.bool true) := World.cell?_setCell_same _ _ _ (by rw [World.cell?_setCell_other _ _ _ _ (by simp)]; exact hc5)
    have hc4' := cell_kept q4 (grownBy_putObj' _ D (.deferred none)) (fun r e => by cases e; exact ⟨_, hK', rfl⟩)
    have hc5' := cell_kept q5 (grownBy_putObj' _ D (.deferred none)) (fun r e => by cases e; exact ⟨_, hK', rfl⟩)
    refine ⟨.tuple #[.int .i64 rv, .bool true], ?_, rfl, ((hB.setCell (p := ⟨w.heap.size, 0, none⟩) (Nat.le_refl _) _).setCell (p := ⟨w.heap.size + 1, 0, none⟩) (by simp) _).trans (belowK_b (w := w) (Nat.le_refl _) _ D _ _ (by omega) hK' rfl rfl)⟩
    simp [results, Tryz.results282, go_sem, hc4', hc5']
  case stop =>
    rintro D c pre W hD hpre ⟨⟨rfl, hin, hc4, hc5⟩, hB⟩ hK
    obtain ⟨post, hpost⟩ := hpre
    have hnone : stepF l q 0 = none := by rw [← acc_units, ← hpost, acc_append, hin]; rfl
    obtain ⟨rfl, rfl⟩ := unhide HN hnone
    clear hnone HV HN hin hpost
    gi_wp2_with (fail)
    refine ⟨by simp, .inl ⟨_, _, rfl, run_takeDeferred hK, ?_⟩⟩
    have hc4' := cell_kept hc4 (grownBy_putObj' _ D (.deferred none)) (fun r e => by cases e; exact ⟨_, hK, rfl⟩)
    have hc5' := cell_kept hc5 (grownBy_putObj' _ D (.deferred none)) (fun r e => by cases e; exact ⟨_, hK, rfl⟩)
    refine ⟨.tuple #[.int .i64 0, .bool false], ?_, rfl, hB.trans (belowK_b (w := w) (Nat.le_refl _) W D _ _ (by omega) hK rfl rfl)⟩
    simp [results, Tryz.results282, go_sem, hc4', hc5']

/-- impl.RuleStep -/
theorem stepI (v : Value) (l : List T) (q : Int) (w : World) (h : TR w v l) (hl : l.length ≤ 1048576) :
    Calls Tryz.prog 282 #[v, .int .i64 q] w fun e w' => e = .returned (.tuple #[.int .i64 (stepV l q), .bool (stepB l q)]) ∧ Below w.heap.size w w' := by
  cases hr : rightB l
  · obtain ⟨e1, e2⟩ := stepB_bad (q := q) (.inl hr)
    rw [e1, e2]
    exact stepI_bad1 v l q w h hl hr
  cases hq : okB q
  · obtain ⟨e1, e2⟩ := stepB_bad (l := l) (.inr hq)
    rw [e1, e2]
    exact stepI_bad2 v l q w h hl hr hq
  rcases h with ⟨rfl, a, c, rfl⟩ | ⟨b, o, cap, rfl, hc⟩
  · have := rightB_len hr; simp at this
  · exact stepI_ok b o cap l q w hc hr hq
end Go.Proofs.YtnchgeiinkaefaaGreatDoor.Tiers
end
