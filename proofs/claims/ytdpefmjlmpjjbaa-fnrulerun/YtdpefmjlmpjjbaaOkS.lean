/-
  spec.l2Size, spec.RuleOk.
-/
import Derived.Test.YtdpefmjlmpjjbaaNode
namespace Go.Proofs.Ytdpefmjlmpjjbaa.Rule
set_option linter.unusedVariables false
open Go.RowKit Tiers
open Kinds hiding hide unhide below_trans ext_toList

mutual
/-- all are right -/
def allB : Ex → Bool | .mk k n m ks ts => nodeB k n m ks.length ts && allL ks
def allL : List Ex → Bool | [] => true | e :: es => allB e && allL es
end
/-- RuleOk -/
def okE (e : Ex) : Bool := allB e && decide (cnt e ≤ 40) && decide (dep e ≤ 8)
def nodeE (e : Ex) : Bool := nodeB e.kind e.num e.meter e.kids.length e.tiers
theorem allB_eq (e : Ex) : allB e = (nodeE e && allL e.kids) := by cases e; rfl
theorem allL_append : ∀ a b : List Ex, allL (a ++ b) = (allL a && allL b)
  | [], b => rfl
  | e :: es, b => by rw [List.cons_append, allL, allL, allL_append es b, Bool.and_assoc]
theorem allL_take {l : List Ex} {k : Nat} (h : k < l.length) : allL (l.take (k + 1)) = (allL (l.take k) && allB (l.getD k E0)) := by
  rw [take_at h, allL_append]; simp [allL]
theorem allL_false {l : List Ex} {k : Nat} (h : allL (l.take k) = false) : allL l = false := by
  have h' := allL_append (l.take k) (l.drop k)
  rw [List.take_append_drop, h] at h'
  simpa using h'

/-- what l2Size tells -/
def SizeOk (e : Ex) (n dd : Int) (ok : Bool) : Prop := 1 ≤ n ∧ n ≤ cnt e ∧ 1 ≤ dd ∧ dd ≤ dep e ∧ (ok = true → n = cnt e ∧ dd = dep e ∧ allB e = true) ∧ (ok = false → allB e = false ∨ 40 < cnt e)
/-- .. behind k kids -/
def SizeAt (e : Ex) (k : Nat) (n dd : Int) (ok : Bool) : Prop := 1 ≤ n ∧ n ≤ 1 + cntL (e.kids.take k) ∧ 0 ≤ dd ∧ dd ≤ depL (e.kids.take k) ∧
  (ok = true → n = 1 + cntL (e.kids.take k) ∧ dd = depL (e.kids.take k) ∧ nodeE e = true ∧ allL (e.kids.take k) = true) ∧ (ok = false → nodeE e = false ∨ allL (e.kids.take k) = false ∨ 40 < 1 + cntL (e.kids.take k))
theorem SizeAt.start (e : Ex) : SizeAt e 0 1 0 (nodeE e) := by
  refine ⟨by omega, by simp [cntL], by omega, by simp, fun h => ⟨by simp [cntL], by simp [depL], h, rfl⟩, fun h => .inl h⟩
theorem SizeAt.step {e : Ex} {k : Nat} {n dd a b : Int} {c : Bool} (h : SizeAt e k n dd true) (hk : k < e.kids.length) (hs : SizeOk (e.kids.getD k E0) a b c) :
    SizeAt e (k + 1) (n + a) (if dd < b then b else dd) (c && decide (n + a ≤ 40)) := by
  obtain ⟨h1, h2, h3, h4, h5, _⟩ := h
  obtain ⟨e1, e2, e3, e4⟩ := h5 rfl
  obtain ⟨s1, s2, s3, s4, s5, s6⟩ := hs
  have c1 := cntL_take hk
  have d1 := depL_take hk
  have a1 := allL_take hk
  unfold SizeAt
  rw [c1, d1, a1]
  refine ⟨by omega, by omega, by split <;> omega, by split <;> omega, fun h => ?_, fun h => ?_⟩
  · simp only [Bool.and_eq_true, decide_eq_true_eq] at h
    obtain ⟨t1, t2, t3⟩ := s5 h.1
    refine ⟨by omega, by split <;> omega, e3, by rw [e4, t3]; rfl⟩
  · cases hc : c
    · rcases s6 hc with s | s
      · exact .inr (.inl (by rw [s]; simp))
      · exact .inr (.inr (by omega))
    · rw [hc] at h
      simp only [Bool.true_and, decide_eq_false_iff_not] at h
      exact .inr (.inr (by omega))
theorem SizeAt.done {e : Ex} {k : Nat} {n dd : Int} {ok : Bool} (h : SizeAt e k n dd ok) (hk : ok = false ∨ e.kids.length ≤ k) : SizeOk e n (dd + 1) ok := by
  obtain ⟨h1, h2, h3, h4, h5, h6⟩ := h
  have c1 := cntL_le e.kids k
  have d1 := depL_le e.kids k
  refine ⟨h1, by rw [cnt_eq]; omega, by omega, by rw [dep_eq]; omega, fun h => ?_, fun h => ?_⟩
  · have hk' : e.kids.length ≤ k := hk.resolve_left (by rw [h]; simp)
    obtain ⟨e1, e2, e3, e4⟩ := h5 h
    rw [List.take_of_length_le hk'] at e1 e2 e4
    rw [cnt_eq, dep_eq, allB_eq, e3, e4]
    exact ⟨by omega, by omega, rfl⟩
  · rw [cnt_eq, allB_eq]
    rcases h6 h with s | s | s
    · exact .inl (by rw [s]; rfl)
    · exact .inl (by rw [allL_false s]; simp)
    · exact .inr (by omega)

def SizeE (d : Nat) : Prop := ∀ (lo hi : Nat) (v : Value) (e : Ex) (w : World), EV lo hi w d v e → hi ≤ w.heap.size → wt e ≤ 1048576 →
  Calls Try.prog 22 #[v] w fun x w' => ∃ (n dd : Int) (ok : Bool), x = .returned (.tuple #[.int .i64 n, .int .i64 dd, .bool ok]) ∧ SizeOk e n dd ok ∧ Below w.heap.size w w'

set_option maxHeartbeats 1600000 in
theorem sizeE_nil (lo hi : Nat) (a : Option Addr) (c : Nat) (tv : Value) (e : Ex) (w : World) (hk : e.kids = []) (hz : e.meter.size ≤ maxLen ∧ e.tiers.length ≤ maxLen) (ht : TL lo hi w tv e.tiers) (hhi : hi ≤ w.heap.size) (hw : wt e ≤ 1048576) :
    Calls Try.prog 22 #[.agg #[.int .i64 e.kind, .int .i64 e.num, .string e.meter, .slice a 0 c, tv]] w fun x w' => ∃ (n dd : Int) (ok : Bool), x = .returned (.tuple #[.int .i64 n, .int .i64 dd, .bool ok]) ∧ SizeOk e n dd ok ∧ Below w.heap.size w w' := by
  have hS : SizeOk e 1 (0 + 1) (nodeE e) := (SizeAt.start e).done (.inr (by rw [hk]; simp))
  have HS := hide hS
  have hnode : nodeE e = nodeB e.kind e.num e.meter 0 e.tiers := by unfold nodeE; rw [hk]; rfl
  have ht2 : e.tiers.length ≤ 1048576 := by rw [wt_eq] at hw; omega
  obtain ⟨ta, tc, rfl⟩ : ∃ a c, tv = .slice a e.tiers.length c := by
    rcases ht with ⟨h, a, c, rfl⟩ | ⟨b, o, cap, rfl, _⟩
    · rw [h]; exact ⟨_, _, rfl⟩
    · exact ⟨_, _, rfl⟩
  have HN := hide (nodeS e.kind e.num e.meter a ta 0 c tc e.tiers (w.alloc (.cells #[.int .i64 e.kind, .int .i64 e.num, .string e.meter, .slice a 0 c, .slice ta e.tiers.length tc] 26)) (by unfold maxLen; omega) hz.1 ht2 (ht.kept (same_below (below_alloc _ _) hhi)).toTR)
  rw [← hnode] at HN
  clear hnode hS ht hz hk
  generalize e.kind = k at *
  generalize e.num = q at *
  generalize e.meter = m at *
  generalize e.tiers.length = tn at *
  generalize nodeE e = nd at *
  go_enter Try.func22, Try.ntmps22
  go_wp2_with (fail)
  refine (unhide HN).mono ?_
  rintro x w1 ⟨rfl, hb1⟩
  obtain ⟨c0, c1, c2, c3, c4, hB⟩ := box5 _ _ _ _ _ _ _ _ hb1
  have HB := hide hB
  clear hb1 hB HN
  go_wp2_with (fail)
  refine wp_loop_rounds 1 ?_
  rw [rounds_succ]
  go_wp2_with (fail)
  go_ret3
  exact ⟨_, _, _, rfl, unhide HS, unhide HB⟩

set_option maxHeartbeats 1600000 in
theorem sizeE_row {d : Nat} (H : SizeE d) (lo hi b o cap : Nat) (tv : Value) (e : Ex) (w : World) (hl : e.kids.length ≤ maxLen) (k1 : lo ≤ b) (k2 : b < hi)
    (hc : ∀ i, i < e.kids.length → ∃ kv tv, (w.cell? ⟨b, o + i * 5, none⟩ = some (.int .i64 (e.kids.getD i E0).kind) ∧ w.cell? ⟨b, o + i * 5 + 1, none⟩ = some (.int .i64 (e.kids.getD i E0).num) ∧ w.cell? ⟨b, o + i * 5 + 2, none⟩ = some (.string (e.kids.getD i E0).meter) ∧
        w.cell? ⟨b, o + i * 5 + 3, none⟩ = some kv ∧ w.cell? ⟨b, o + i * 5 + 4, none⟩ = some tv) ∧
        ((e.kids.getD i E0).meter.size ≤ maxLen ∧ (e.kids.getD i E0).tiers.length ≤ maxLen) ∧ ES lo hi w d kv (e.kids.getD i E0).kids ∧ TL lo hi w tv (e.kids.getD i E0).tiers)
    (hz : e.meter.size ≤ maxLen ∧ e.tiers.length ≤ maxLen) (ht : TL lo hi w tv e.tiers) (hhi : hi ≤ w.heap.size) (hw : wt e ≤ 1048576) :
    Calls Try.prog 22 #[.agg #[.int .i64 e.kind, .int .i64 e.num, .string e.meter, .slice (some ⟨b, o, none⟩) e.kids.length cap, tv]] w fun x w' => ∃ (n dd : Int) (ok : Bool), x = .returned (.tuple #[.int .i64 n, .int .i64 dd, .bool ok]) ∧ SizeOk e n dd ok ∧ Below w.heap.size w w' := by
  have hcw := cnt_wt e
  have hdc := dep_cnt e
  have hww := wt_eq e
  have ht2 : e.tiers.length ≤ 1048576 := by omega
  have hkl := wtL_len e.kids
  have HWK : Hid (∀ k, k < e.kids.length → wt (e.kids.getD k E0) ≤ 1048576) := hide (fun k hk => by have := wt_at hk; omega)
  have HC := hide hc
  have HH := hide H
  have HS0 : Hid (SizeAt e 0 1 0 (nodeE e)) := hide (SizeAt.start e)
  have HST : Hid (∀ (k : Nat) (n dd a b : Int) (c : Bool), SizeAt e k n dd true → k < e.kids.length → SizeOk (e.kids.getD k E0) a b c → SizeAt e (k + 1) (n + a) (if dd < b then b else dd) (c && decide (n + a ≤ 40))) := hide (fun k n dd a b c h hk hs => h.step hk hs)
  have HBD : Hid (∀ (k : Nat) (n dd : Int) (ok : Bool), SizeAt e k n dd ok → 1 ≤ n ∧ n ≤ 1048577 ∧ 0 ≤ dd ∧ dd ≤ 1048577) := hide (fun k n dd ok h => by
    have c1 := cntL_le e.kids k
    have d1 := depL_le e.kids k
    rw [cnt_eq] at hcw hdc
    rw [dep_eq] at hdc
    exact ⟨h.1, by have := h.2.1; omega, h.2.2.1, by have := h.2.2.2.1; omega⟩)
  have HBK : Hid (∀ (k : Nat) (a b : Int) (c : Bool), k < e.kids.length → SizeOk (e.kids.getD k E0) a b c → 1 ≤ a ∧ a ≤ 1048577 ∧ 1 ≤ b ∧ b ≤ 1048577) := hide (fun k a b c hk h => by
    have c1 := cnt_wt (e.kids.getD k E0)
    have d1 := dep_cnt (e.kids.getD k E0)
    have := unhide HWK k hk
    exact ⟨h.1, by have := h.2.1; omega, h.2.2.1, by have := h.2.2.2.1; omega⟩)
  have HDN : Hid (∀ (k : Nat) (n dd : Int) (ok : Bool), SizeAt e k n dd ok → ok = false ∨ e.kids.length ≤ k → SizeOk e n (dd + 1) ok) := hide (fun k n dd ok h hk => h.done hk)
  obtain ⟨ta, tc, rfl⟩ : ∃ a c, tv = .slice a e.tiers.length c := by
    rcases ht with ⟨h, a, c, rfl⟩ | ⟨b, o, cap, rfl, _⟩
    · rw [h]; exact ⟨_, _, rfl⟩
    · exact ⟨_, _, rfl⟩
  have HN := hide (nodeS e.kind e.num e.meter (some ⟨b, o, none⟩) ta e.kids.length cap tc e.tiers (w.alloc (.cells #[.int .i64 e.kind, .int .i64 e.num, .string e.meter, .slice (some ⟨b, o, none⟩) e.kids.length cap, .slice ta e.tiers.length tc] 26)) hl hz.1 ht2 (ht.kept (same_below (below_alloc _ _) hhi)).toTR)
  have hnode : nodeB e.kind e.num e.meter e.kids.length e.tiers = nodeE e := rfl
  rw [hnode] at HN
  have hbw : b < w.heap.size := by omega
  clear hnode ht hz hc H hcw hdc hww
  unfold maxLen at hl
  generalize e.kind = k at *
  generalize e.num = q at *
  generalize e.meter = m at *
  generalize e.tiers.length = tn at *
  generalize nodeE e = nd at *
  go_enter Try.func22, Try.ntmps22
  go_wp2_with (fail)
  refine (unhide HN).mono ?_
  rintro x w1 ⟨rfl, hb1⟩
  obtain ⟨_, _, _, c3, _, hB⟩ := box5 _ _ _ _ _ _ _ _ hb1
  have hsz : w.heap.size < w1.heap.size := by have := hb1.size; simp at this; omega
  have HB := hide hB
  clear hb1 hB HN
  go_wp2_with (fail)
  go_loopw [5, 6, 7, 8] (fun n d t i wr => ∃ (k : Nat) (nn dd : Int) (ok : Bool), k ≤ e.kids.length ∧ i = .int .i64 k ∧ n = .int .i64 nn ∧ d = .int .i64 dd ∧ t = .bool ok ∧ Hid (SizeAt e k nn dd ok) ∧ Hid (Below w1.heap.size w1 wr)) (fun _ _ _ i _ => e.kids.length - (intOf i).toNat)
  case atStart => exact ⟨0, 1, 0, nd, Nat.zero_le _, rfl, rfl, rfl, rfl, HS0, hide (Below.refl _ _)⟩
  case round =>
    obtain ⟨k, nn, dd, ok, hk, rfl, rfl, rfl, rfl, hS, hb⟩ := hrel
    obtain ⟨n1, n2, d1, d2⟩ := unhide HBD _ _ _ _ (unhide hS)
    have c3' := ((unhide hb).cell (p := ⟨w.heap.size, 3, none⟩) hsz).trans c3
    clear c3
    have HBW : Hid (Below w.heap.size w wr) := hide (below_trans (unhide HB) (unhide hb))
    by_cases hlt : k < e.kids.length
    · cases ok
      · have HD := hide (unhide HDN _ _ _ _ (unhide hS) (.inl rfl))
        go_wp2_with (fail)
        go_ret3
        exact ⟨_, _, _, rfl, unhide HD, unhide HBW⟩
      · obtain ⟨kv, tv, ⟨e0', e1', e2', e3', e4'⟩, hz, hkk, htt⟩ := unhide HC k hlt
        have e0 := ((unhide HBW).cell (p := ⟨b, o + k * 5, none⟩) hbw).trans e0'
        have e1 := ((unhide HBW).cell (p := ⟨b, o + k * 5 + 1, none⟩) hbw).trans e1'
        have e2 := ((unhide HBW).cell (p := ⟨b, o + k * 5 + 2, none⟩) hbw).trans e2'
        have e3 := ((unhide HBW).cell (p := ⟨b, o + k * 5 + 3, none⟩) hbw).trans e3'
        have e4 := ((unhide HBW).cell (p := ⟨b, o + k * 5 + 4, none⟩) hbw).trans e4'
        have HE : Hid (EV lo hi wr d (.agg #[.int .i64 (e.kids.getD k E0).kind, .int .i64 (e.kids.getD k E0).num, .string (e.kids.getD k E0).meter, kv, tv]) (e.kids.getD k E0)) := hide ⟨kv, tv, rfl, hz, hkk.kept (same_below (unhide HBW) hhi), htt.kept (same_below (unhide HBW) hhi)⟩
        have HW' := hide (unhide HWK k hlt)
        have HSK := hide (fun a b c => unhide HST k nn dd a b c (unhide hS) hlt)
        have HBK' := hide (fun a b c => unhide HBK k a b c hlt)
        clear e0' e1' e2' e3' e4' hz hkk htt HST HBK HDN
        generalize e.kids.getD k E0 = f at *
        generalize f.kind = fk at *
        generalize f.num = fn at *
        generalize f.meter = fm at *
        go_wp2_with (fail)
        refine (unhide HH lo hi _ f wr (unhide HE) (Nat.le_trans hhi (unhide HBW).size) (unhide HW')).mono ?_
        rintro x w2 ⟨a, b', c, rfl, hs, hb2⟩
        obtain ⟨a1, a2, b1, b2⟩ := unhide HBK' a b' c hs
        have HS2 := hide (unhide HSK a b' c hs)
        have HB2 : Hid (Below w1.heap.size w1 w2) := hide (below_trans (unhide hb) hb2)
        clear hs hb2 hb HSK HBK' HE hS e0 e1 e2 e3 e4 c3'
        by_cases hdb : dd < b'
        · rw [if_pos hdb] at HS2
          cases c
          · go_wp2_with (fail)
            exact ⟨⟨k + 1, nn + a, b', false, by omega, by go_num, rfl, rfl, rfl, HS2, HB2⟩, by simp [intOf]; omega⟩
          · by_cases h40 : nn + a ≤ 40
            · have h40' : decide (nn + a ≤ 40) = true := decide_eq_true h40
              rw [h40'] at HS2
              go_wp2_with (fail)
              exact ⟨⟨k + 1, nn + a, b', true, by omega, by go_num, rfl, rfl, rfl, HS2, HB2⟩, by simp [intOf]; omega⟩
            · have h40' : decide (nn + a ≤ 40) = false := decide_eq_false h40
              rw [h40'] at HS2
              go_wp2_with (fail)
              exact ⟨⟨k + 1, nn + a, b', false, by omega, by go_num, rfl, rfl, rfl, HS2, HB2⟩, by simp [intOf]; omega⟩
        · rw [if_neg hdb] at HS2
          cases c
          · go_wp2_with (fail)
            exact ⟨⟨k + 1, nn + a, dd, false, by omega, by go_num, rfl, rfl, rfl, HS2, HB2⟩, by simp [intOf]; omega⟩
          · by_cases h40 : nn + a ≤ 40
            · have h40' : decide (nn + a ≤ 40) = true := decide_eq_true h40
              rw [h40'] at HS2
              go_wp2_with (fail)
              exact ⟨⟨k + 1, nn + a, dd, true, by omega, by go_num, rfl, rfl, rfl, HS2, HB2⟩, by simp [intOf]; omega⟩
            · have h40' : decide (nn + a ≤ 40) = false := decide_eq_false h40
              rw [h40'] at HS2
              go_wp2_with (fail)
              exact ⟨⟨k + 1, nn + a, dd, false, by omega, by go_num, rfl, rfl, rfl, HS2, HB2⟩, by simp [intOf]; omega⟩
    · have HD := hide (unhide HDN _ _ _ _ (unhide hS) (.inr (by omega)))
      go_wp2_with (fail)
      go_ret3
      exact ⟨_, _, _, rfl, unhide HD, unhide HBW⟩

theorem sizeE_all : ∀ d, SizeE d
  | 0 => by
    rintro lo hi v e w ⟨kv, tv, rfl, hz, ⟨hk, a, c, rfl⟩, ht⟩ hhi hw
    exact sizeE_nil lo hi a c tv e w hk hz ht hhi hw
  | d + 1 => by
    rintro lo hi v e w ⟨kv, tv, rfl, hz, hk, ht⟩ hhi hw
    rcases hk with ⟨hk, a, c, rfl⟩ | ⟨b, o, cap, rfl, hl, k1, k2, hc⟩
    · exact sizeE_nil lo hi a c tv e w hk hz ht hhi hw
    · exact sizeE_row (sizeE_all d) lo hi b o cap tv e w hl k1 k2 hc hz ht hhi hw

theorem okE_of {e : Ex} {n dd : Int} {ok : Bool} (h : SizeOk e n dd ok) : okE e = (ok && decide (n ≤ 40) && decide (dd ≤ 8)) := by
  obtain ⟨_, _, _, _, h5, h6⟩ := h
  unfold okE
  cases ok
  · rcases h6 rfl with h | h
    · rw [h]; rfl
    · rw [decide_eq_false (by omega)]; simp
  · obtain ⟨e1, e2, e3⟩ := h5 rfl
    rw [e3, e1, e2]
    congr 1
    · congr 1
      rw [Bool.eq_iff_iff]; simp; omega
    · rw [Bool.eq_iff_iff]; simp; omega

/-- spec.RuleOk -/
theorem okS (d lo hi : Nat) (v : Value) (e : Ex) (w : World) (h : EV lo hi w d v e) (hhi : hi ≤ w.heap.size) (hw : wt e ≤ 1048576) :
    Calls Try.prog 14 #[v] w fun x w' => x = .returned (.bool (okE e)) ∧ Below w.heap.size w w' := by
  obtain ⟨kv, tv, rfl, hz, hk, ht⟩ := h
  have HE : Hid (EV lo hi (w.alloc (.cells #[.int .i64 e.kind, .int .i64 e.num, .string e.meter, kv, tv] 26)) d (.agg #[.int .i64 e.kind, .int .i64 e.num, .string e.meter, kv, tv]) e) := hide ⟨kv, tv, rfl, hz, hk.kept (same_below (below_alloc _ _) hhi), ht.kept (same_below (below_alloc _ _) hhi)⟩
  have HO : Hid (∀ n dd ok, SizeOk e n dd ok → okE e = (ok && decide (n ≤ 40) && decide (dd ≤ 8))) := hide (fun n dd ok h => okE_of h)
  clear hz hk ht
  generalize okE e = r at *
  generalize e.kind = ek at *
  generalize e.num = en at *
  generalize e.meter = em at *
  go_enter Try.func14, Try.ntmps14
  go_wp2_with (fail)
  refine (sizeE_all d lo hi _ e _ (unhide HE) (by simp; omega) hw).mono ?_
  rintro x w1 ⟨n, dd, ok, rfl, hs, hb1⟩
  have hr := unhide HO n dd ok hs
  have HB := hide ((below_alloc w (.cells #[.int .i64 ek, .int .i64 en, .string em, kv, tv] 26)).trans (hb1.mono (by simp)))
  clear hb1 HO hs HE
  cases ok
  · simp only [Bool.false_and] at hr
    subst hr
    go_wp2_with (fail)
    go_ret
    exact ⟨rfl, unhide HB⟩
  · by_cases h40 : n ≤ 40
    · by_cases h8 : dd ≤ 8
      · rw [decide_eq_true h40, decide_eq_true h8] at hr
        simp only [Bool.true_and] at hr
        subst hr
        go_wp2_with (fail)
        go_ret
        exact ⟨rfl, unhide HB⟩
      · rw [decide_eq_true h40, decide_eq_false h8] at hr
        simp only [Bool.and_false] at hr
        subst hr
        have h8' : decide (dd ≤ 8) = false := decide_eq_false h8
        go_wp2_with (fail)
        go_ret
        exact ⟨rfl, unhide HB⟩
    · rw [decide_eq_false h40] at hr
      simp only [Bool.and_false, Bool.false_and] at hr
      subst hr
      have h40' : decide (n ≤ 40) = false := decide_eq_false h40
      go_wp2_with (fail)
      go_ret
      exact ⟨rfl, unhide HB⟩
end Go.Proofs.Ytdpefmjlmpjjbaa.Rule
