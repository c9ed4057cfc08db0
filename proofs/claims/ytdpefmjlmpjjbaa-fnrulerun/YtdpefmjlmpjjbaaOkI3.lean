/-
  impl.okWithin, kid by kid; impl.RuleOk.
-/
import Derived.Test.YtdpefmjlmpjjbaaOkI2
import Derived.Deep.RegionWith
namespace Go.Proofs.Ytdpefmjlmpjjbaa.Rule
set_option linter.unusedVariables false
open Go.RowKit Tiers
open Kinds hiding hide unhide below_trans ext_toList

/-- a row of kids -/
def KidsAt (lo hi : Nat) (w : World) (d : Nat) (b o : Nat) (l : List Ex) : Prop := lo ≤ b ∧ b < hi ∧ ∀ i, i < l.length →
  ∃ kv tv, (w.cell? ⟨b, o + i * 5, none⟩ = some (.int .i64 (l.getD i E0).kind) ∧ w.cell? ⟨b, o + i * 5 + 1, none⟩ = some (.int .i64 (l.getD i E0).num) ∧ w.cell? ⟨b, o + i * 5 + 2, none⟩ = some (.string (l.getD i E0).meter) ∧
    w.cell? ⟨b, o + i * 5 + 3, none⟩ = some kv ∧ w.cell? ⟨b, o + i * 5 + 4, none⟩ = some tv) ∧
    ((l.getD i E0).meter.size ≤ maxLen ∧ (l.getD i E0).tiers.length ≤ maxLen) ∧ ES lo hi w d kv (l.getD i E0).kids ∧ TL lo hi w tv (l.getD i E0).tiers

theorem allB_at {e : Ex} (h : allB e = true) {k : Nat} (hk : k < e.kids.length) : allB (e.kids.getD k E0) = true := by
  rw [allB_eq] at h
  simp only [Bool.and_eq_true] at h
  cases h' : allB (e.kids.getD k E0)
  · have := allL_take hk
    rw [h', Bool.and_false] at this
    rw [allL_false this] at h
    cases h.2
  · rfl
theorem dep_at {e : Ex} {k : Nat} (hk : k < e.kids.length) : dep (e.kids.getD k E0) + 1 ≤ dep e := by
  have h1 := depL_take hk
  have h2 := depL_le e.kids (k + 1)
  rw [dep_eq e]; omega
theorem cnt_at {e : Ex} {k : Nat} (hk : k < e.kids.length) : 1 + cntL (e.kids.take k) + cnt (e.kids.getD k E0) ≤ cnt e := by
  have h1 := cntL_take hk
  have h2 := cntL_le e.kids (k + 1)
  rw [cnt_eq e]; omega
/-- k kids are done -/
def KidsOk (e : Ex) (depth m : Int) (k : Nat) (mk : Int) : Prop := mk = m - 1 - cntL (e.kids.take k) ∧ 0 ≤ mk ∧ allL (e.kids.take k) = true ∧ (depL (e.kids.take k) : Int) + 1 ≤ depth
theorem KidsOk.no {e : Ex} {depth m : Int} {k : Nat} {mk m' : Int} (h : KidsOk e depth m k mk) (hk : k < e.kids.length) (hw : WOk (e.kids.getD k E0) (depth - 1) mk false m') : WOk e depth m false m' := by
  refine ⟨fun h => (by cases h), fun _ ⟨a, b, c⟩ => hw.2 rfl ⟨allB_at a hk, ?_, ?_⟩⟩
  · have := dep_at hk; omega
  · have := cnt_at hk; have := h.1; omega
theorem KidsOk.step {e : Ex} {depth m : Int} {k : Nat} {mk m' : Int} (h : KidsOk e depth m k mk) (hk : k < e.kids.length) (hw : WOk (e.kids.getD k E0) (depth - 1) mk true m') : KidsOk e depth m (k + 1) m' := by
  obtain ⟨w1, w2, w3, w4⟩ := hw.1 rfl
  obtain ⟨h1, h2, h3, h4⟩ := h
  refine ⟨by rw [cntL_take hk]; omega, w2, by rw [allL_take hk, h3, w3]; rfl, by rw [depL_take hk]; omega⟩
theorem KidsOk.done {e : Ex} {depth m : Int} {mk : Int} (h : KidsOk e depth m e.kids.length mk) (hn : nodeE e = true) : WOk e depth m true mk := by
  obtain ⟨h1, h2, h3, h4⟩ := h
  rw [List.take_length] at h1 h3 h4
  refine ⟨fun _ => ⟨by rw [cnt_eq]; omega, h2, by rw [allB_eq, hn, h3]; rfl, by rw [dep_eq]; omega⟩, fun h => (by cases h)⟩

set_option maxHeartbeats 3000000 in
/-- behind the kids' number: does it fit? then kid by kid -/
theorem okW_rest {d : Nat} (lo hi pb : Nat) (ka : Option Addr) (kc : Nat) (ta : Option Addr) (tc : Nat) (e : Ex) (depth m : Int) (w : World) (hhi : hi ≤ pb) (hpb : pb < w.heap.size) (d1 : 1 ≤ depth) (d2 : depth ≤ 8) (m1 : 1 ≤ m) (m2 : m ≤ 40) (hc : w.cell? ⟨pb, 0, none⟩ = some (.int .i64 m)) (hf : w.frozen? ⟨pb, 0, none⟩ = false)
    (hk : 1 ≤ e.kind ∧ e.kind ≤ 10) (hw : wt e ≤ 1048576) (h : (e.kids.length : Int) = kidsK e.kind) (hz : e.meter.size ≤ maxLen ∧ e.tiers.length ≤ maxLen) (hT : TL lo hi w (.slice ta e.tiers.length tc) e.tiers)
    (H : e.kids ≠ [] → OkW d) (hK : e.kids = [] ∨ ∃ b o, ka = some ⟨b, o, none⟩ ∧ KidsAt lo hi w d b o e.kids) :
    Calls Try.prog 20 #[.agg #[.int .i64 e.kind, .int .i64 e.num, .string e.meter, .slice ka e.kids.length kc, .slice ta e.tiers.length tc], .int .i64 depth, .pointer (some ⟨pb, 0, none⟩)] w fun x w' => ∃ (r : Bool) (m' : Int), x = .returned (.bool r) ∧ WOk e depth m r m' ∧ w'.cell? ⟨pb, 0, none⟩ = some (.int .i64 m') ∧ w'.frozen? ⟨pb, 0, none⟩ = false ∧ w.grownBy w' (some pb) := by
  have hww := wt_eq e
  have hkl := wtL_len e.kids
  have hkl2 : e.kids.length ≤ 1048576 := by omega
  have htl2 : e.tiers.length ≤ 1048576 := by omega
  have HQ : Hid ((e.kids.length : Int) = kidsK e.kind) := hide h
  have b1 : ((e.kids.length : Int) != kidsK e.kind) = false := by simp [h]
  have HNO : Hid (fitsB e.kind e.num e.meter e.tiers = false → WOk e depth m false (m - 1)) := hide (fun hf => ⟨fun h => (by cases h), fun _ ⟨a, _, _⟩ => by have := (nodeE_in (allB_node a)).2.2.2; rw [hf] at this; cases this⟩)
  have hne : ¬ w.heap.size = pb := by omega
  have hne' : ¬ pb = w.heap.size := by omega
  have hH := Head.new w pb e (.slice ka e.kids.length kc) (.slice ta e.tiers.length tc) m 26 hpb hc hf
  obtain ⟨W5, hW5⟩ : ∃ W5, (w.setCell ⟨pb, 0, none⟩ (.int .i64 (m - 1))).alloc (.cells #[.int .i64 e.kind, .int .i64 e.num, .string e.meter, .slice ka e.kids.length kc, .slice ta e.tiers.length tc] 26) = W5 := ⟨_, rfl⟩
  rw [hW5] at hH
  have HW5 := hide hW5
  have HH := hide hH
  have hsame : Same lo hi w W5 := fun b h1 h2 => hH.grown.block b (by omega) (by simp; omega)
  have HT5 := hide (hT.kept hsame)
  have HK := hide hK
  have HZ := hide hz
  have HO := hide H
  obtain ⟨⟨g0, g1, g2, g3, g4⟩, _, _, _, hs5⟩ := hH
  clear hW5 h hsame hT hK hz H
  have hkv := kindV_in hk
  have mm1 := mLook hk
  have mm2 := mFits hk
  have mm3 := eFits hk
  have fl : ∀ (w : World), (Instr.field 78 (.agg #[.string (wordK e.kind), .int .i64 (kidsK e.kind)]) 1).run Try.prog w = .ok (.int .i64 (kidsK e.kind)) w := fun w => by kernel_rfl
  go_enter Try.func20, Try.ntmps20
  go_wp2_with (fail)
  refine (kindOf _ _).mono ?_
  rintro x w1 ⟨rfl, rfl⟩
  rw [hkv]
  clear hkv
  go_wp2_with (fail)
  rw [unhide HW5]
  clear HW5
  go_region_held3 (fun w2 => w2.cell? ⟨w.heap.size, 0, none⟩ = some (.int .i64 e.kind) ∧ w2.cell? ⟨w.heap.size, 1, none⟩ = some (.int .i64 e.num) ∧ w2.cell? ⟨w.heap.size, 2, none⟩ = some (.string e.meter) ∧ w2.cell? ⟨w.heap.size, 3, none⟩ = some (.slice ka e.kids.length kc) ∧ w2.cell? ⟨w.heap.size, 4, none⟩ = some (.slice ta e.tiers.length tc)) (go_keep)
    (first | (go_at_call 64; refine (Kinds.look (wordK e.kind) (kidsK e.kind) _).mono ?_; rintro x w6 ⟨rfl, hb6⟩; have hB6 : Below W5.heap.size W5 w6 := ⟨hb6.os, hb6.tape, hb6.output, hb6.size, hb6.block⟩; clear hb6; have q0 := (hB6.cell (p := ⟨w.heap.size, 0, none⟩) hs5).trans g0; have q1 := (hB6.cell (p := ⟨w.heap.size, 1, none⟩) hs5).trans g1; have q2 := (hB6.cell (p := ⟨w.heap.size, 2, none⟩) hs5).trans g2; have q3 := (hB6.cell (p := ⟨w.heap.size, 3, none⟩) hs5).trans g3; have q4 := (hB6.cell (p := ⟨w.heap.size, 4, none⟩) hs5).trans g4) | (refine (fitsI hk e.num e.meter ka ta e.kids.length kc tc e.tiers _ (unhide HZ).1 htl2 (((unhide HT5).kept (same_below hB6 (by omega))).toTR)).mono ?_; rintro x w7 ⟨rfl, hb7⟩; have hB7 : Below W5.heap.size W5 w7 := below_trans hB6 hb7; clear hb7; have r0 := (hB7.cell (p := ⟨w.heap.size, 0, none⟩) hs5).trans g0; have r1 := (hB7.cell (p := ⟨w.heap.size, 1, none⟩) hs5).trans g1; have r2 := (hB7.cell (p := ⟨w.heap.size, 2, none⟩) hs5).trans g2; have r3 := (hB7.cell (p := ⟨w.heap.size, 3, none⟩) hs5).trans g3; have r4 := (hB7.cell (p := ⟨w.heap.size, 4, none⟩) hs5).trans g4))
  have HH7 := hide ((unhide HH).kept hB7 hpb)
  have r3' := r3
  clear hB7 hB6 q0 q1 q2 q3 q4 r0 r1 r2 r4 r3 g0 g1 g2 g3 g4 HH mm1 mm2 mm3 fl HT5
  have r3 := r3'
  clear r3'
  cases hfit : fitsB e.kind e.num e.meter e.tiers
  · have HW := hide (unhide HNO hfit)
    go_wp2_with (fail)
    go_ret
    exact ⟨_, _, rfl, unhide HW, (unhide HH7).cell, (unhide HH7).frozen, (unhide HH7).grown⟩
  · have HND : Hid (nodeE e = true) := hide (by unfold nodeE; rw [nodeB_fits (unhide HQ), hfit])
    have HK0 : Hid (KidsOk e depth m 0 (m - 1)) := hide ⟨by simp [cntL], by omega, rfl, by simp [depL]; omega⟩
    have HWK : Hid (∀ k, k < e.kids.length → wt (e.kids.getD k E0) ≤ 1048576) := hide (fun k hk => by have := wt_at hk; omega)
    clear HNO hfit
    go_wp2_with (fail)
    go_loopw [46] (fun i wr => ∃ (k : Nat) (mk : Int), k ≤ e.kids.length ∧ i = .int .i64 k ∧ Hid (KidsOk e depth m k mk) ∧ Hid (wr.cell? ⟨pb, 0, none⟩ = some (.int .i64 mk)) ∧ Hid (wr.frozen? ⟨pb, 0, none⟩ = false) ∧ Hid (w.grownBy wr (some pb))) (fun i _ => e.kids.length - (intOf i).toNat)
    case atStart => exact ⟨0, m - 1, Nat.zero_le _, rfl, HK0, hide (unhide HH7).cell, hide (unhide HH7).frozen, hide (unhide HH7).grown⟩
    case round =>
      obtain ⟨k, mk, hkk, rfl, hKO, hcp, hfp, hg⟩ := hrel
      clear r3 HH7
      by_cases hlt : k < e.kids.length
      · obtain ⟨b, o, rfl, k1, k2, hKA⟩ : ∃ b o, ka = some ⟨b, o, none⟩ ∧ KidsAt lo hi w d b o e.kids := by
          rcases unhide HK with h | h
          · rw [h] at hlt; simp at hlt
          · exact h
        obtain ⟨kv, tv, ⟨e0', e1', e2', e3', e4'⟩, hz, hes, htt⟩ := hKA k hlt
        obtain ⟨fa, fc, hfv, _⟩ := hes.form
        obtain ⟨xa, xc, hxv⟩ : ∃ a c, tv = .slice a (e.kids.getD k E0).tiers.length c := by
          rcases htt with ⟨h, a, c, rfl⟩ | ⟨b, o, cap, rfl, _⟩
          · rw [h]; exact ⟨_, _, rfl⟩
          · exact ⟨_, _, rfl⟩
        subst hfv hxv
        have hblk : ∀ j, lo ≤ j → j < hi → wr.heap[j]? = w.heap[j]? := fun j h1 h2 => (unhide hg).block j (by omega) (by simp; omega)
        have hbb := hblk b k1 k2
        have e0 := (World.cell?_of_block (w := w) (a := ⟨b, o + k * 5, none⟩) hbb).trans e0'
        have e1 := (World.cell?_of_block (w := w) (a := ⟨b, o + k * 5 + 1, none⟩) hbb).trans e1'
        have e2 := (World.cell?_of_block (w := w) (a := ⟨b, o + k * 5 + 2, none⟩) hbb).trans e2'
        have e3 := (World.cell?_of_block (w := w) (a := ⟨b, o + k * 5 + 3, none⟩) hbb).trans e3'
        have e4 := (World.cell?_of_block (w := w) (a := ⟨b, o + k * 5 + 4, none⟩) hbb).trans e4'
        have hsz := (unhide hg).size
        have HE : Hid (∀ ob, EV lo hi (wr.alloc ob) d (.agg #[.int .i64 (e.kids.getD k E0).kind, .int .i64 (e.kids.getD k E0).num, .string (e.kids.getD k E0).meter, .slice fa (e.kids.getD k E0).kids.length fc, .slice xa (e.kids.getD k E0).tiers.length xc]) (e.kids.getD k E0)) := hide (fun ob => by
          have hs : Same lo hi w (wr.alloc ob) := same_trans hblk (same_below (below_alloc _ _) (by omega))
          exact ⟨_, _, rfl, hz, hes.kept hs, htt.kept hs⟩)
        have HCP : Hid (∀ ob, (wr.alloc ob).cell? ⟨pb, 0, none⟩ = some (.int .i64 mk)) := hide (fun ob => ((below_alloc wr ob).cell (p := ⟨pb, 0, none⟩) (by simp; omega)).trans (unhide hcp))
        have HFP : Hid (∀ ob, (wr.alloc ob).frozen? ⟨pb, 0, none⟩ = false) := hide (fun ob => ((below_alloc wr ob).frozen (p := ⟨pb, 0, none⟩) (by simp; omega)).trans (unhide hfp))
        have HG : Hid (∀ ob w', (wr.alloc ob).grownBy w' (some pb) → w.grownBy w' (some pb)) := hide (fun ob w' h => by
          have h1 := unhide hg
          exact ⟨h.os.trans h1.os, h.tape.trans h1.tape, h.output.trans h1.output, Nat.le_trans h1.size (Nat.le_trans (by simp) h.size), fun j hj hne => ((h.block j (by simp; omega) hne).trans (Below.heap_alloc wr ob j (by omega))).trans (h1.block j hj hne)⟩)
        have HW' := hide (unhide HWK k hlt)
        have HNO := hide (fun m' hh => (unhide hKO).no (m' := m') hlt hh)
        have HYES := hide (fun m' hh => (unhide hKO).step (m' := m') hlt hh)
        have mk0 : 0 ≤ mk := (unhide hKO).2.1
        have mk1 : mk ≤ 40 := by have := (unhide hKO).1; omega
        clear e0' e1' e2' e3' e4' hz hes htt hblk hbb hcp hfp hg hKO hKA
        generalize e.kids.getD k E0 = f at *
        generalize f.kind = fk at *
        generalize f.num = fn at *
        generalize f.meter = fm at *
        generalize f.kids.length = fkn at *
        generalize f.tiers.length = ftn at *
        go_wp2_with (fail)
        refine (unhide HO (fun h => by rw [h] at hlt; simp at hlt) lo hi pb _ f (depth - 1) mk _ (unhide HE _) hhi (by simp; omega) (unhide HW') (by omega) (by omega) mk0 mk1 (unhide HCP _) (unhide HFP _)).mono ?_
        rintro x w8 ⟨r, m', rfl, hwk, hc8, hf8, hg8⟩
        have HC8 := hide hc8
        have HF8 := hide hf8
        have HG8 := hide (unhide HG _ _ hg8)
        clear hc8 hf8 hg8 e0 e1 e2 e3 e4 HE HCP HFP HG
        cases r
        · have HW := hide (unhide HNO m' hwk)
          go_wp2_with (fail)
          go_ret
          exact ⟨_, _, rfl, unhide HW, unhide HC8, unhide HF8, unhide HG8⟩
        · have HS := hide (unhide HYES m' hwk)
          go_wp2_with (fail)
          refine ⟨⟨_, _, _, _, _, _, _, _, _, _, _, _, _, ⟨k + 1, m', by omega, ?_, HS, HC8, HF8, HG8⟩, rfl⟩, ?_⟩
          · go_num
          · simp [intOf]; omega
      · obtain rfl : k = e.kids.length := by omega
        have HW := hide ((unhide hKO).done (unhide HND))
        go_wp2_with (fail)
        go_ret
        exact ⟨_, _, rfl, unhide HW, unhide hcp, unhide hfp, unhide hg⟩

theorem TL.form {lo hi : Nat} {W : World} {v : Value} {l : List T} (h : TL lo hi W v l) : ∃ a c, v = .slice a l.length c := by
  rcases h with ⟨rfl, a, c, rfl⟩ | ⟨b, o, cap, rfl, _⟩
  · exact ⟨_, _, rfl⟩
  · exact ⟨_, _, rfl⟩

theorem okW_step {d : Nat} (H : ∀ d', d = d' + 1 → OkW d') : OkW d := by
  rintro lo hi pb v e depth m w ⟨kv, tv, rfl, hz, hk, ht⟩ hhi hpb hw d1 d2 m1 m2 hc hf
  obtain ⟨ta, tc, rfl⟩ := ht.form
  obtain ⟨ka, kc, hkf, hkl⟩ := hk.form
  by_cases hh : ¬ (1 ≤ e.kind ∧ e.kind ≤ 10) ∨ depth < 1 ∨ m < 1
  · exact okW_head pb kv _ e depth m w hpb d1 d2 m1 m2 hc hf hh
  have hk10 : 1 ≤ e.kind ∧ e.kind ≤ 10 := by omega
  have hkl2 : e.kids.length ≤ 1048576 := by have := wt_eq e; have := wtL_len e.kids; omega
  by_cases hn : (e.kids.length : Int) = kidsK e.kind
  · cases d with
    | zero =>
      obtain ⟨h0, a, c, rfl⟩ := hk
      simp only [Value.slice.injEq] at hkf
      obtain ⟨rfl, hl0, rfl⟩ := hkf
      have := okW_rest (d := 0) lo hi pb a c ta tc e depth m w hhi hpb (by omega) d2 (by omega) m2 hc hf hk10 hw hn hz ht (fun h => absurd h0 h) (.inl h0)
      rw [← hl0] at this
      exact this
    | succ d =>
      rcases hk with ⟨h0, a, c, rfl⟩ | ⟨b, o, cap, rfl, _, k1, k2, hcs⟩
      · simp only [Value.slice.injEq] at hkf
        obtain ⟨rfl, hl0, rfl⟩ := hkf
        have := okW_rest (d := d) lo hi pb a c ta tc e depth m w hhi hpb (by omega) d2 (by omega) m2 hc hf hk10 hw hn hz ht (fun _ => H d rfl) (.inl h0)
        rw [← hl0] at this
        exact this
      · exact okW_rest (d := d) lo hi pb (some ⟨b, o, none⟩) cap ta tc e depth m w hhi hpb (by omega) d2 (by omega) m2 hc hf hk10 hw hn hz ht (fun _ => H d rfl) (.inr ⟨b, o, rfl, k1, k2, hcs⟩)
  · subst hkf
    exact okW_kids pb ka kc _ e depth m w hpb (by omega) d2 (by omega) m2 hc hf hk10 hkl2 hn

theorem okW_all : ∀ d, OkW d
  | 0 => okW_step (fun d' h => by omega)
  | d + 1 => okW_step (fun d' h => by
    have e : d' = d := by omega
    rw [e]; exact okW_all d)

theorem okE_W {e : Ex} {r : Bool} {m' : Int} (h : WOk e 8 40 r m') : okE e = r := by
  unfold okE
  cases r
  · have := h.2 rfl
    cases ha : allB e
    · rfl
    · by_cases h1 : cnt e ≤ 40
      · have h2 : ¬ dep e ≤ 8 := fun h2 => this ⟨ha, by omega, by omega⟩
        rw [decide_eq_false h2]; simp
      · rw [decide_eq_false h1]; simp
  · obtain ⟨h1, h2, h3, h4⟩ := h.1 rfl
    rw [h3, decide_eq_true (show cnt e ≤ 40 by omega), decide_eq_true (show dep e ≤ 8 by omega)]; rfl

set_option maxHeartbeats 800000 in
/-- impl.RuleOk -/
theorem okI (d lo hi : Nat) (v : Value) (e : Ex) (w : World) (h : EV lo hi w d v e) (hhi : hi ≤ w.heap.size) (hw : wt e ≤ 1048576) :
    Calls Try.prog 12 #[v] w fun x w' => x = .returned (.bool (okE e)) ∧ Below w.heap.size w w' := by
  have h' := h
  obtain ⟨kv, tv, rfl, hz, hk, ht⟩ := h
  obtain ⟨ta, tc, rfl⟩ := ht.form
  obtain ⟨ka, kc, rfl, _⟩ := hk.form
  have HE : Hid (∀ ob op, EV lo hi ((w.alloc ob).alloc op) d (.agg #[.int .i64 e.kind, .int .i64 e.num, .string e.meter, .slice ka e.kids.length kc, .slice ta e.tiers.length tc]) e) := hide (fun ob op => h'.kept (same_below (below2 w ob op) hhi))
  have HO : Hid (∀ r m', WOk e 8 40 r m' → okE e = r) := hide (fun r m' h => okE_W h)
  have HN : Hid (∀ ob, ((w.alloc ob).alloc (.cells #[.int .i64 40] 3)).cell? ⟨w.heap.size + 1, 0, none⟩ = some (.int .i64 40) ∧ ((w.alloc ob).alloc (.cells #[.int .i64 40] 3)).frozen? ⟨w.heap.size + 1, 0, none⟩ = false) := hide (fun ob => by
    have e1 := (MapKept.heap_alloc (w.alloc ob) (.cells #[.int .i64 40] 3)).1
    simp only [World.size_alloc] at e1
    simp only [World.cell?, World.frozen?]
    rw [e1]; simp)
  clear hz hk ht h'
  generalize okE e = r at *
  generalize e.kind = ek at *
  generalize e.num = en at *
  generalize e.meter = em at *
  generalize e.kids.length = kn at *
  generalize e.tiers.length = tn at *
  go_enter Try.func12, Try.ntmps12
  go_wp2_with (fail)
  refine (okW_all d lo hi (w.heap.size + 1) _ e 8 40 _ (unhide HE _ _) (by omega) (by simp) hw (by omega) (by omega) (by omega) (by omega) (unhide HN _).1 (unhide HN _).2).mono ?_
  rintro x w1 ⟨b, m', rfl, hwk, _, _, hg⟩
  have hr := unhide HO b m' hwk
  subst hr
  have HB : Hid (Below w.heap.size w w1) := hide ((below2 w _ _).grown hg (by simp; omega) (fun k e => by cases e; simp))
  clear hg hwk HE HN HO
  go_wp2_with (fail)
  go_ret
  exact ⟨rfl, unhide HB⟩
end Go.Proofs.Ytdpefmjlmpjjbaa.Rule
