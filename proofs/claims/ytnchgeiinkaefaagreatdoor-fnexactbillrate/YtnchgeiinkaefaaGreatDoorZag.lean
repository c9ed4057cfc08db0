/-
  Texts of this proof laid together, in build order; each says of itself what it holds.
-/
import Derived.Test.YtnchgeiinkaefaaGreatDoorZaf
import Derived.Deep.RegionWith
import Derived.Test.YtnchgeiinkaefaaGreatDoorZab
import Derived.Test.YtnchgeiinkaefaaGreatDoorProg
import Derived.WalkKit
import Derived.Below
import Derived.Deep.OwnRows
import Derived.WalkMore
import Derived.Outline
import Derived.Test.YtnchgeiinkaefaaGreatDoorZae
import Derived.Test.YtnchgeiinkaefaaGreatDoorZaa
import Derived.Deep.QuietTactic
import Derived.BigQuiet
import Derived.Deep.RegionHeld3
import Derived.Shelf.Strings.Builder1
import Derived.Shelf.Strings.Builder2
import Derived.Shelf.Strings.OnBuilder
import Derived.Shelf.Small.Utf8
import Derived.Shelf.Small.Bits
import Derived.Shelf.Small.Strs
import Derived.Shelf.Small.Wraps
import Derived.Shelf.Strconv.Atoi
import Derived.Shelf.Strconv.Itoa0
import Derived.Shelf.Strconv.Itoa1
import Derived.Shelf.LaysM
import Derived.Shelf.Strconv.Itoa2
import Derived.Shelf.Strconv.Itoa3
import Derived.Shelf.Strconv.AtoiErrFast
import Derived.Shelf.Strconv.ParseIntEmpty
import Derived.Shelf.Strconv.AtoiFail
import Derived.Shelf.Strconv.Clone
import Derived.Shelf.Strconv.SyntaxError
import Derived.Shelf.LaysC
import Derived.Shelf.Strconv.ToError
import Derived.Shelf.Strconv.Lower
import Derived.Shelf.Strconv.ParseUint10
import Derived.Shelf.Strconv.ParseUint10Empty
import Derived.Shelf.Strconv.ParseUint10Any
import Derived.Shelf.Strconv.ParseInt10
import Derived.Shelf.Strconv.AtoiLong
import Derived.Shelf.Strconv.AtoiInnerAll
import Derived.Shelf.Strconv.RangeError
import Derived.Shelf.Strconv.ToErrorRange
import Derived.Shelf.Strconv.AtoiAll
import Derived.Shelf.Strconv.ErrVarAll
import Derived.Shelf.Strings.Search1
import Derived.Shelf.Strings.Search2
import Derived.Shelf.Strings.Cut
import Derived.Shelf.Strings.Shaped
import Derived.Shelf.Strings.Prefix
import Derived.Shelf.Strings.Fields
import Derived.Shelf.Unicode.Latin
import Derived.Shelf.Strings.Runes
import Derived.Shelf.Strings.IndexAny
import Derived.Shelf.Strings.AsciiSet
import Derived.Shelf.Strings.IndexAnyAll
import Derived.Shelf.Unicode.Is16White
import Derived.Shelf.Unicode.IsSpaceAny
import Derived.Shelf.Unicode.Is16WhiteD
import Derived.Shelf.Unicode.IsSpaceAnyD
import Derived.Shelf.Strings.FieldsAny
import Derived.Shelf.Strings.FieldsFuncAny
import Derived.Shelf.Unicode.Is16Any
import Derived.Shelf.Unicode.Is32Any
import Derived.Shelf.Unicode.ExclAny
import Derived.Ground.SlgmProg
import Derived.Shelf.SortM.Plain
import Derived.Shelf.SortM.SortNone
import Derived.Deep.AppendLies
import Derived.Lib.LaidU8
section
/-
  impl.okWithin, kid by kid; impl.RuleOk.
-/
namespace Go.Proofs.YtnchgeiinkaefaaGreatDoor.Rule
set_option linter.unusedVariables false
open Go.RowKit Tiers
open Kinds hiding hide unhide below_trans ext_toList

/-- a row of kids -/
def KidsAt (lo hi : Nat) (w : World) (d : Nat) (b o : Nat) (l : List Ex) : Prop := lo ≤ b ∧ b < hi ∧ ∀ i, i < l.length →
  ∃ kv tv, (w.cell? ⟨b, o + i * 5, none⟩ = some (.int .i64 (l.getD i E0).kind) ∧ w.cell? ⟨b, o + i * 5 + 1, none⟩ = some (.int .i64 (l.getD i E0).num) ∧ w.cell? ⟨b, o + i * 5 + 2, none⟩ = some (.string (l.getD i E0).meter) ∧
    w.cell? ⟨b, o + i * 5 + 3, none⟩ = some kv ∧ w.cell? ⟨b, o + i * 5 + 4, none⟩ = some tv) ∧
    ((l.getD i E0).meter.size ≤ maxLen ∧ (l.getD i E0).tiers.length ≤ maxLen) ∧ ES lo hi w d kv (l.getD i E0).kids ∧ TL lo hi w tv (l.getD i E0).tiers

theorem allB_at {e : Ex} (h : allB e = true) {k : Nat} (hk : k < e.kids.length) : allB (e.kids.getD k E0) = true := by
  rw [allB_eq] at h
  simp only [Bool.and_eq_true] at h
  cases h' : allB (e.kids.getD k E0)
  · have := allL_take hk
    rw [h', Bool.and_false] at this
    rw [allL_false this] at h
    cases h.2
  · rfl
theorem dep_at {e : Ex} {k : Nat} (hk : k < e.kids.length) : dep (e.kids.getD k E0) + 1 ≤ dep e := by
  have h1 := depL_take hk
  have h2 := depL_le e.kids (k + 1)
  rw [dep_eq e]; omega
theorem cnt_at {e : Ex} {k : Nat} (hk : k < e.kids.length) : 1 + cntL (e.kids.take k) + cnt (e.kids.getD k E0) ≤ cnt e := by
  have h1 := cntL_take hk
  have h2 := cntL_le e.kids (k + 1)
  rw [cnt_eq e]; omega
/-- k kids are done -/
def KidsOk (e : Ex) (depth m : Int) (k : Nat) (mk : Int) : Prop := mk = m - 1 - cntL (e.kids.take k) ∧ 0 ≤ mk ∧ allL (e.kids.take k) = true ∧ (depL (e.kids.take k) : Int) + 1 ≤ depth
theorem KidsOk.no {e : Ex} {depth m : Int} {k : Nat} {mk m' : Int} (h : KidsOk e depth m k mk) (hk : k < e.kids.length) (hw : WOk (e.kids.getD k E0) (depth - 1) mk false m') : WOk e depth m false m' := by
  refine ⟨fun h => (by cases h), fun _ ⟨a, b, c⟩ => hw.2 rfl ⟨allB_at a hk, ?_, ?_⟩⟩
  · have := dep_at hk; omega
  · have := cnt_at hk; have := h.1; omega
theorem KidsOk.step {e : Ex} {depth m : Int} {k : Nat} {mk m' : Int} (h : KidsOk e depth m k mk) (hk : k < e.kids.length) (hw : WOk (e.kids.getD k E0) (depth - 1) mk true m') : KidsOk e depth m (k + 1) m' := by
  obtain ⟨w1, w2, w3, w4⟩ := hw.1 rfl
  obtain ⟨h1, h2, h3, h4⟩ := h
  refine ⟨by rw [cntL_take hk]; omega, w2, by rw [allL_take hk, h3, w3]; rfl, by rw [depL_take hk]; omega⟩
theorem KidsOk.done {e : Ex} {depth m : Int} {mk : Int} (h : KidsOk e depth m e.kids.length mk) (hn : nodeE e = true) : WOk e depth m true mk := by
  obtain ⟨h1, h2, h3, h4⟩ := h
  rw [List.take_length] at h1 h3 h4
  refine ⟨fun _ => ⟨by rw [cnt_eq]; omega, h2, by rw [allB_eq, hn, h3]; rfl, by rw [dep_eq]; omega⟩, fun h => (by cases h)⟩

set_option maxHeartbeats 3000000 in
/-- behind the kids' number: does it fit? then kid by kid -/
theorem okW_rest {d : Nat} (lo hi pb : Nat) (ka : Option Addr) (kc : Nat) (ta : Option Addr) (tc : Nat) (e : Ex) (depth m : Int) (w : World) (hhi : hi ≤ pb) (hpb : pb < w.heap.size) (d1 : 1 ≤ depth) (d2 : depth ≤ 8) (m1 : 1 ≤ m) (m2 : m ≤ 40) (hc : w.cell? ⟨pb, 0, none⟩ = some (.int .i64 m)) (hf : w.frozen? ⟨pb, 0, none⟩ = false)
    (hk : 1 ≤ e.kind ∧ e.kind ≤ 10) (hw : wt e ≤ 1048576) (h : (e.kids.length : Int) = kidsK e.kind) (hz : e.meter.size ≤ maxLen ∧ e.tiers.length ≤ maxLen) (hT : TL lo hi w (.slice ta e.tiers.length tc) e.tiers)
    (H : e.kids ≠ [] → OkW d) (hK : e.kids = [] ∨ ∃ b o, ka = some ⟨b, o, none⟩ ∧ KidsAt lo hi w d b o e.kids) :
    Calls Tryz.prog 125 #[.agg #[.int .i64 e.kind, .int .i64 e.num, .string e.meter, .slice ka e.kids.length kc, .slice ta e.tiers.length tc], .int .i64 depth, .pointer (some ⟨pb, 0, none⟩)] w fun x w' => ∃ (r : Bool) (m' : Int), x = .returned (.bool r) ∧ WOk e depth m r m' ∧ w'.cell? ⟨pb, 0, none⟩ = some (.int .i64 m') ∧ w'.frozen? ⟨pb, 0, none⟩ = false ∧ w.grownBy w' (some pb) := by
  have hww := wt_eq e
  have hkl := wtL_len e.kids
  have hkl2 : e.kids.length ≤ 1048576 := by omega
  have htl2 : e.tiers.length ≤ 1048576 := by omega
  have HQ : Hid ((e.kids.length : Int) = kidsK e.kind) := hide h
  have b1 : ((e.kids.length : Int) != kidsK e.kind) = false := by simp [h]
  have HNO : Hid (fitsB e.kind e.num e.meter e.tiers = false → WOk e depth m false (m - 1)) := hide (fun hf => ⟨fun h => (by cases h), fun _ ⟨a, _, _⟩ => by have := (nodeE_in (allB_node a)).2.2.2; rw [hf] at this; cases this⟩)
  have hne : ¬ w.heap.size = pb := by omega
  have hne' : ¬ pb = w.heap.size := by omega
  have hH := Head.new w pb e (.slice ka e.kids.length kc) (.slice ta e.tiers.length tc) m 77 hpb hc hf
  obtain ⟨W5, hW5⟩ : ∃ W5, (w.setCell ⟨pb, 0, none⟩ (.int .i64 (m - 1))).alloc (.cells #[.int .i64 e.kind, .int .i64 e.num, .string e.meter, .slice ka e.kids.length kc, .slice ta e.tiers.length tc] 77) = W5 := ⟨_, rfl⟩
  rw [hW5] at hH
  have HW5 := hide hW5
  have HH := hide hH
  have hsame : Same lo hi w W5 := fun b h1 h2 => hH.grown.block b (by omega) (by simp; omega)
  have HT5 := hide (hT.kept hsame)
  have HK := hide hK
  have HZ := hide hz
  have HO := hide H
  obtain ⟨⟨g0, g1, g2, g3, g4⟩, _, _, _, hs5⟩ := hH
  clear hW5 h hsame hT hK hz H
  have hkv := kindV_in hk
  have mm1 := mLook hk
  have mm2 := mFits hk
  have mm3 := eFits hk
  have fl : ∀ (w : World), (Instr.field 192 (.agg #[.string (wordK e.kind), .int .i64 (kidsK e.kind)]) 1).run Tryz.prog w = .ok (.int .i64 (kidsK e.kind)) w := fun w => by kernel_rfl
  go_enter Tryz.func125, Tryz.ntmps125
  go_wp2_with (fail)
  refine (kindOf _ _).mono ?_
  rintro x w1 ⟨rfl, rfl⟩
  rw [hkv]
  clear hkv
  go_wp2_with (fail)
  rw [unhide HW5]
  clear HW5
  go_region_held3 (fun w2 => w2.cell? ⟨w.heap.size, 0, none⟩ = some (.int .i64 e.kind) ∧ w2.cell? ⟨w.heap.size, 1, none⟩ = some (.int .i64 e.num) ∧ w2.cell? ⟨w.heap.size, 2, none⟩ = some (.string e.meter) ∧ w2.cell? ⟨w.heap.size, 3, none⟩ = some (.slice ka e.kids.length kc) ∧ w2.cell? ⟨w.heap.size, 4, none⟩ = some (.slice ta e.tiers.length tc)) (go_keep)
    (first | (go_at_call 262; refine (Kinds.look (wordK e.kind) (kidsK e.kind) _).mono ?_; rintro x w6 ⟨rfl, hb6⟩; have hB6 : Below W5.heap.size W5 w6 := ⟨hb6.os, hb6.tape, hb6.output, hb6.size, hb6.block⟩; clear hb6; have q0 := (hB6.cell (p := ⟨w.heap.size, 0, none⟩) hs5).trans g0; have q1 := (hB6.cell (p := ⟨w.heap.size, 1, none⟩) hs5).trans g1; have q2 := (hB6.cell (p := ⟨w.heap.size, 2, none⟩) hs5).trans g2; have q3 := (hB6.cell (p := ⟨w.heap.size, 3, none⟩) hs5).trans g3; have q4 := (hB6.cell (p := ⟨w.heap.size, 4, none⟩) hs5).trans g4) | (refine (fitsI hk e.num e.meter ka ta e.kids.length kc tc e.tiers _ (unhide HZ).1 htl2 (((unhide HT5).kept (same_below hB6 (by omega))).toTR)).mono ?_; rintro x w7 ⟨rfl, hb7⟩; have hB7 : Below W5.heap.size W5 w7 := below_trans hB6 hb7; clear hb7; have r0 := (hB7.cell (p := ⟨w.heap.size, 0, none⟩) hs5).trans g0; have r1 := (hB7.cell (p := ⟨w.heap.size, 1, none⟩) hs5).trans g1; have r2 := (hB7.cell (p := ⟨w.heap.size, 2, none⟩) hs5).trans g2; have r3 := (hB7.cell (p := ⟨w.heap.size, 3, none⟩) hs5).trans g3; have r4 := (hB7.cell (p := ⟨w.heap.size, 4, none⟩) hs5).trans g4))
  have HH7 := hide ((unhide HH).kept hB7 hpb)
  have r3' := r3
  clear hB7 hB6 q0 q1 q2 q3 q4 r0 r1 r2 r4 r3 g0 g1 g2 g3 g4 HH mm1 mm2 mm3 fl HT5
  have r3 := r3'
  clear r3'
  cases hfit : fitsB e.kind e.num e.meter e.tiers
  · have HW := hide (unhide HNO hfit)
    go_wp2_with (fail)
    go_ret
    exact ⟨_, _, rfl, unhide HW, (unhide HH7).cell, (unhide HH7).frozen, (unhide HH7).grown⟩
  · have HND : Hid (nodeE e = true) := hide (by unfold nodeE; rw [nodeB_fits (unhide HQ), hfit])
    have HK0 : Hid (KidsOk e depth m 0 (m - 1)) := hide ⟨by simp [cntL], by omega, rfl, by simp [depL]; omega⟩
    have HWK : Hid (∀ k, k < e.kids.length → wt (e.kids.getD k E0) ≤ 1048576) := hide (fun k hk => by have := wt_at hk; omega)
    clear HNO hfit
    go_wp2_with (fail)
    go_loopw [46] (fun i wr => ∃ (k : Nat) (mk : Int), k ≤ e.kids.length ∧ i = .int .i64 k ∧ Hid (KidsOk e depth m k mk) ∧ Hid (wr.cell? ⟨pb, 0, none⟩ = some (.int .i64 mk)) ∧ Hid (wr.frozen? ⟨pb, 0, none⟩ = false) ∧ Hid (w.grownBy wr (some pb))) (fun i _ => e.kids.length - (intOf i).toNat)
    case atStart => exact ⟨0, m - 1, Nat.zero_le _, rfl, HK0, hide (unhide HH7).cell, hide (unhide HH7).frozen, hide (unhide HH7).grown⟩
    case round =>
      obtain ⟨k, mk, hkk, rfl, hKO, hcp, hfp, hg⟩ := hrel
      clear r3 HH7
      by_cases hlt : k < e.kids.length
      · obtain ⟨b, o, rfl, k1, k2, hKA⟩ : ∃ b o, ka = some ⟨b, o, none⟩ ∧ KidsAt lo hi w d b o e.kids := by
          rcases unhide HK with h | h
          · rw [h] at hlt; simp at hlt
          · exact h
        obtain ⟨kv, tv, ⟨e0', e1', e2', e3', e4'⟩, hz, hes, htt⟩ := hKA k hlt
        obtain ⟨fa, fc, hfv, _⟩ := hes.form
        obtain ⟨xa, xc, hxv⟩ : ∃ a c, tv = .slice a (e.kids.getD k E0).tiers.length c := by
          rcases htt with ⟨h, a, c, rfl⟩ | ⟨b, o, cap, rfl, _⟩
          · rw [h]; exact ⟨_, _, rfl⟩
          · exact ⟨_, _, rfl⟩
        subst hfv hxv
        have hblk : ∀ j, lo ≤ j → j < hi → wr.heap[j]? = w.heap[j]? := fun j h1 h2 => (unhide hg).block j (by omega) (by simp; omega)
        have hbb := hblk b k1 k2
        have e0 := (World.cell?_of_block (w := w) (a := ⟨b, o + k * 5, none⟩) hbb).trans e0'
        have e1 := (World.cell?_of_block (w := w) (a := ⟨b, o + k * 5 + 1, none⟩) hbb).trans e1'
        have e2 := (World.cell?_of_block (w := w) (a := ⟨b, o + k * 5 + 2, none⟩) hbb).trans e2'
        have e3 := (World.cell?_of_block (w := w) (a := ⟨b, o + k * 5 + 3, none⟩) hbb).trans e3'
        have e4 := (World.cell?_of_block (w := w) (a := ⟨b, o + k * 5 + 4, none⟩) hbb).trans e4'
        have hsz := (unhide hg).size
        have HE : Hid (∀ ob, EV lo hi (wr.alloc ob) d (.agg #[.int .i64 (e.kids.getD k E0).kind, .int .i64 (e.kids.getD k E0).num, .string (e.kids.getD k E0).meter, .slice fa (e.kids.getD k E0).kids.length fc, .slice xa (e.kids.getD k E0).tiers.length xc]) (e.kids.getD k E0)) := hide (fun ob => by
          have hs : Same lo hi w (wr.alloc ob) := same_trans hblk (same_below (below_alloc _ _) (by omega))
          exact ⟨_, _, rfl, hz, hes.kept hs, htt.kept hs⟩)
        have HCP : Hid (∀ ob, (wr.alloc ob).cell? ⟨pb, 0, none⟩ = some (.int .i64 mk)) := hide (fun ob => ((below_alloc wr ob).cell (p := ⟨pb, 0, none⟩) (by simp; omega)).trans (unhide hcp))
        have HFP : Hid (∀ ob, (wr.alloc ob).frozen? ⟨pb, 0, none⟩ = false) := hide (fun ob => ((below_alloc wr ob).frozen (p := ⟨pb, 0, none⟩) (by simp; omega)).trans (unhide hfp))
        have HG : Hid (∀ ob w', (wr.alloc ob).grownBy w' (some pb) → w.grownBy w' (some pb)) := hide (fun ob w' h => by
          have h1 := unhide hg
          exact ⟨h.os.trans h1.os, h.tape.trans h1.tape, h.output.trans h1.output, Nat.le_trans h1.size (Nat.le_trans (by simp) h.size), fun j hj hne => ((h.block j (by simp; omega) hne).trans (Below.heap_alloc wr ob j (by omega))).trans (h1.block j hj hne)⟩)
        have HW' := hide (unhide HWK k hlt)
        have HNO := hide (fun m' hh => (unhide hKO).no (m' := m') hlt hh)
        have HYES := hide (fun m' hh => (unhide hKO).step (m' := m') hlt hh)
        have mk0 : 0 ≤ mk := (unhide hKO).2.1
        have mk1 : mk ≤ 40 := by have := (unhide hKO).1; omega
        clear e0' e1' e2' e3' e4' hz hes htt hblk hbb hcp hfp hg hKO hKA
        generalize e.kids.getD k E0 = f at *
        generalize f.kind = fk at *
        generalize f.num = fn at *
        generalize f.meter = fm at *
        generalize f.kids.length = fkn at *
        generalize f.tiers.length = ftn at *
        go_wp2_with (fail)
        refine (unhide HO (fun h => by rw [h] at hlt; simp at hlt) lo hi pb _ f (depth - 1) mk _ (unhide HE _) hhi (by simp; omega) (unhide HW') (by omega) (by omega) mk0 mk1 (unhide HCP _) (unhide HFP _)).mono ?_
        rintro x w8 ⟨r, m', rfl, hwk, hc8, hf8, hg8⟩
        have HC8 := hide hc8
        have HF8 := hide hf8
        have HG8 := hide (unhide HG _ _ hg8)
        clear hc8 hf8 hg8 e0 e1 e2 e3 e4 HE HCP HFP HG
        cases r
        · have HW := hide (unhide HNO m' hwk)
          go_wp2_with (fail)
          go_ret
          exact ⟨_, _, rfl, unhide HW, unhide HC8, unhide HF8, unhide HG8⟩
        · have HS := hide (unhide HYES m' hwk)
          go_wp2_with (fail)
          refine ⟨⟨_, _, _, _, _, _, _, _, _, _, _, _, _, ⟨k + 1, m', by omega, ?_, HS, HC8, HF8, HG8⟩, rfl⟩, ?_⟩
          · go_num
          · simp [intOf]; omega
      · obtain rfl : k = e.kids.length := by omega
        have HW := hide ((unhide hKO).done (unhide HND))
        go_wp2_with (fail)
        go_ret
        exact ⟨_, _, rfl, unhide HW, unhide hcp, unhide hfp, unhide hg⟩

theorem TL.form {lo hi : Nat} {W : World} {v : Value} {l : List T} (h : TL lo hi W v l) : ∃ a c, v = .slice a l.length c := by
  rcases h with ⟨rfl, a, c, rfl⟩ | ⟨b, o, cap, rfl, _⟩
  · exact ⟨_, _, rfl⟩
  · exact ⟨_, _, rfl⟩

theorem okW_step {d : Nat} (H : ∀ d', d = d' + 1 → OkW d') : OkW d := by
  rintro lo hi pb v e depth m w ⟨kv, tv, rfl, hz, hk, ht⟩ hhi hpb hw d1 d2 m1 m2 hc hf
  obtain ⟨ta, tc, rfl⟩ := ht.form
  obtain ⟨ka, kc, hkf, hkl⟩ := hk.form
  by_cases hh : ¬ (1 ≤ e.kind ∧ e.kind ≤ 10) ∨ depth < 1 ∨ m < 1
  · exact okW_head pb kv _ e depth m w hpb d1 d2 m1 m2 hc hf hh
  have hk10 : 1 ≤ e.kind ∧ e.kind ≤ 10 := by omega
  have hkl2 : e.kids.length ≤ 1048576 := by have := wt_eq e; have := wtL_len e.kids; omega
  by_cases hn : (e.kids.length : Int) = kidsK e.kind
  · cases d with
    | zero =>
      obtain ⟨h0, a, c, rfl⟩ := hk
      simp only [Value.slice.injEq] at hkf
      obtain ⟨rfl, hl0, rfl⟩ := hkf
      have := okW_rest (d := 0) lo hi pb a c ta tc e depth m w hhi hpb (by omega) d2 (by omega) m2 hc hf hk10 hw hn hz ht (fun h => absurd h0 h) (.inl h0)
      rw [← hl0] at this
      exact this
    | succ d =>
      rcases hk with ⟨h0, a, c, rfl⟩ | ⟨b, o, cap, rfl, _, k1, k2, hcs⟩
      · simp only [Value.slice.injEq] at hkf
        obtain ⟨rfl, hl0, rfl⟩ := hkf
        have := okW_rest (d := d) lo hi pb a c ta tc e depth m w hhi hpb (by omega) d2 (by omega) m2 hc hf hk10 hw hn hz ht (fun _ => H d rfl) (.inl h0)
        rw [← hl0] at this
        exact this
      · exact okW_rest (d := d) lo hi pb (some ⟨b, o, none⟩) cap ta tc e depth m w hhi hpb (by omega) d2 (by omega) m2 hc hf hk10 hw hn hz ht (fun _ => H d rfl) (.inr ⟨b, o, rfl, k1, k2, hcs⟩)
  · subst hkf
    exact okW_kids pb ka kc _ e depth m w hpb (by omega) d2 (by omega) m2 hc hf hk10 hkl2 hn

theorem okW_all : ∀ d, OkW d
  | 0 => okW_step (fun d' h => by omega)
  | d + 1 => okW_step (fun d' h => by
    have e : d' = d := by omega
    rw [e]; exact okW_all d)

theorem okE_W {e : Ex} {r : Bool} {m' : Int} (h : WOk e 8 40 r m') : okE e = r := by
  unfold okE
  cases r
  · have := h.2 rfl
    cases ha : allB e
    · rfl
    · by_cases h1 : cnt e ≤ 40
      · have h2 : ¬ dep e ≤ 8 := fun h2 => this ⟨ha, by omega, by omega⟩
        rw [decide_eq_false h2]; simp
      · rw [decide_eq_false h1]; simp
  · obtain ⟨h1, h2, h3, h4⟩ := h.1 rfl
    rw [h3, decide_eq_true (show cnt e ≤ 40 by omega), decide_eq_true (show dep e ≤ 8 by omega)]; rfl

set_option maxHeartbeats 800000 in
/-- impl.RuleOk -/
theorem okI (d lo hi : Nat) (v : Value) (e : Ex) (w : World) (h : EV lo hi w d v e) (hhi : hi ≤ w.heap.size) (hw : wt e ≤ 1048576) :
    Calls Tryz.prog 97 #[v] w fun x w' => x = .returned (.bool (okE e)) ∧ Below w.heap.size w w' := by
  have h' := h
  obtain ⟨kv, tv, rfl, hz, hk, ht⟩ := h
  obtain ⟨ta, tc, rfl⟩ := ht.form
  obtain ⟨ka, kc, rfl, _⟩ := hk.form
  have HE : Hid (∀ ob op, EV lo hi ((w.alloc ob).alloc op) d (.agg #[.int .i64 e.kind, .int .i64 e.num, .string e.meter, .slice ka e.kids.length kc, .slice ta e.tiers.length tc]) e) := hide (fun ob op => h'.kept (same_below (below2 w ob op) hhi))
  have HO : Hid (∀ r m', WOk e 8 40 r m' → okE e = r) := hide (fun r m' h => okE_W h)
  have HN : Hid (∀ ob, ((w.alloc ob).alloc (.cells #[.int .i64 40] 3)).cell? ⟨w.heap.size + 1, 0, none⟩ = some (.int .i64 40) ∧ ((w.alloc ob).alloc (.cells #[.int .i64 40] 3)).frozen? ⟨w.heap.size + 1, 0, none⟩ = false) := hide (fun ob => by
    have e1 := (MapKept.heap_alloc (w.alloc ob) (.cells #[.int .i64 40] 3)).1
    simp only [World.size_alloc] at e1
    simp only [World.cell?, World.frozen?]
    rw [e1]; simp)
  clear hz hk ht h'
  generalize okE e = r at *
  generalize e.kind = ek at *
  generalize e.num = en at *
  generalize e.meter = em at *
  generalize e.kids.length = kn at *
  generalize e.tiers.length = tn at *
  go_enter Tryz.func97, Tryz.ntmps97
  go_wp2_with (fail)
  refine (okW_all d lo hi (w.heap.size + 1) _ e 8 40 _ (unhide HE _ _) (by omega) (by simp) hw (by omega) (by omega) (by omega) (by omega) (unhide HN _).1 (unhide HN _).2).mono ?_
  rintro x w1 ⟨b, m', rfl, hwk, _, _, hg⟩
  have hr := unhide HO b m' hwk
  subst hr
  have HB : Hid (Below w.heap.size w w1) := hide ((below2 w _ _).grown hg (by simp; omega) (fun k e => by cases e; simp))
  clear hg hwk HE HN HO
  go_wp2_with (fail)
  go_ret
  exact ⟨rfl, unhide HB⟩
end Go.Proofs.YtnchgeiinkaefaaGreatDoor.Rule
end

section
/-
  eqRuleExpr, eqRuleExprS, of one and the same expression in two places.
-/
namespace Go.Proofs.YtnchgeiinkaefaaGreatDoor.Rule
set_option linter.unusedVariables false
open Go.RowKit Tiers

end Go.Proofs.YtnchgeiinkaefaaGreatDoor.Rule
end

section
/-
  The law on RuleOk.
-/
namespace Go.Proofs.YtnchgeiinkaefaaGreatDoor.Rule
set_option linter.unusedVariables false
open Go.RowKit Tiers

/-- the value of an expression, written out -/
abbrev exV (e : Ex) (ka : Option Addr) (kc : Nat) (ta : Option Addr) (tc : Nat) : Value := .agg #[.int .i64 e.kind, .int .i64 e.num, .string e.meter, .slice ka e.kids.length kc, .slice ta e.tiers.length tc]
theorem EV.form {lo hi : Nat} {W : World} {d : Nat} {v : Value} {e : Ex} (h : EV lo hi W d v e) : ∃ ka kc ta tc, v = exV e ka kc ta tc := by
  obtain ⟨kv, tv, rfl, hz, hk, ht⟩ := h
  obtain ⟨ta, tc, rfl⟩ := ht.form
  obtain ⟨ka, kc, rfl, _⟩ := hk.form
  exact ⟨_, _, _, _, rfl⟩
/-- a box that holds an expression -/
def Box (W : World) (B : Nat) (e : Ex) (ka : Option Addr) (kc : Nat) (ta : Option Addr) (tc : Nat) : Prop :=
  W.cell? ⟨B, 0, none⟩ = some (.int .i64 e.kind) ∧ W.cell? ⟨B, 1, none⟩ = some (.int .i64 e.num) ∧ W.cell? ⟨B, 2, none⟩ = some (.string e.meter) ∧ W.cell? ⟨B, 3, none⟩ = some (.slice ka e.kids.length kc) ∧ W.cell? ⟨B, 4, none⟩ = some (.slice ta e.tiers.length tc)
theorem Box.kept {W W' : World} {B : Nat} {e : Ex} {ka : Option Addr} {kc : Nat} {ta : Option Addr} {tc : Nat} (h : Box W B e ka kc ta tc) (hb : Below W.heap.size W W') : Box W' B e ka kc ta tc := by
  have hB := lt_of_cell h.1
  exact ⟨(hb.cell (p := ⟨B, 0, none⟩) hB).trans h.1, (hb.cell (p := ⟨B, 1, none⟩) hB).trans h.2.1, (hb.cell (p := ⟨B, 2, none⟩) hB).trans h.2.2.1, (hb.cell (p := ⟨B, 3, none⟩) hB).trans h.2.2.2.1, (hb.cell (p := ⟨B, 4, none⟩) hB).trans h.2.2.2.2⟩
theorem Box.new (w : World) (e : Ex) (ka : Option Addr) (kc : Nat) (ta : Option Addr) (tc : Nat) (t : TypeId) : Box (w.alloc (.cells #[.int .i64 e.kind, .int .i64 e.num, .string e.meter, .slice ka e.kids.length kc, .slice ta e.tiers.length tc] t)) w.heap.size e ka kc ta tc := new5 w _ _ _ _ _ t
theorem keptE {lo hi : Nat} {W W' : World} {d : Nat} {v : Value} {e : Ex} (h : EV lo hi W d v e) (hh : hi ≤ W.heap.size) (hb : Below W.heap.size W W') : EV lo hi W' d v e := h.kept (same_below hb hh)

end Go.Proofs.YtnchgeiinkaefaaGreatDoor.Rule
end

section
/-
  Boxes: blocks of a few cells that a call has laid for itself (arguments, results, variables).
-/
namespace Go.Proofs.YtnchgeiinkaefaaGreatDoor.Boxes
set_option linter.unusedVariables false
open Go.RowKit

theorem hide {p : Prop} (h : p) : Hid p := h
theorem unhide {p : Prop} (h : Hid p) : p := h

/-- block b holds these cells, none of them frozen -/
def At (W : World) (b : Nat) (cs : List Value) : Prop := ∀ i v, cs[i]? = some v → W.cell? ⟨b, i, none⟩ = some v ∧ W.frozen? ⟨b, i, none⟩ = false
theorem At.kept {W W' : World} {b : Nat} {cs : List Value} (h : At W b cs) (hb : W'.heap[b]? = W.heap[b]?) : At W' b cs :=
  fun i v hi => ⟨(World.cell?_of_block (w := W) hb).trans (h i v hi).1, (World.frozen?_of_block (w := W) hb).trans (h i v hi).2⟩
theorem At.below {W W' : World} {b : Nat} {cs : List Value} (h : At W b cs) (hb : Below W.heap.size W W') (hl : b < W.heap.size) : At W' b cs := h.kept (hb.block b hl)
theorem At.new (w : World) (cs : Array Value) (t : TypeId) : At (w.alloc (.cells cs t)) w.heap.size cs.toList := by
  have e1 := (MapKept.heap_alloc w (.cells cs t)).1
  intro i v hi
  simp only [World.cell?, World.frozen?]
  rw [e1]
  have hi' : cs[i]? = some v := by simpa using hi
  simp [hi']
theorem At.set {W : World} {b : Nat} {cs : List Value} (h : At W b cs) (k : Nat) (u : Value) : At (W.setCell ⟨b, k, none⟩ u) b (cs.set k u) := by
  intro i v hi
  by_cases e : i = k
  · subst e
    by_cases hl : i < cs.length
    · rw [List.getElem?_set_self hl] at hi
      obtain rfl := Option.some.inj hi
      have := h i _ (List.getElem?_eq_getElem hl)
      exact ⟨World.cell?_setCell_same _ _ _ this.1, by simpa [World.frozen?_setCell] using this.2⟩
    · have e2 : (cs.set i u)[i]? = none := by simp; omega
      rw [e2] at hi; cases hi
  · rw [List.getElem?_set_ne (fun h => e h.symm)] at hi
    obtain ⟨h1, h2⟩ := h i v hi
    exact ⟨by rw [World.cell?_setCell_other _ _ _ _ (by intro e'; simp only [Addr.mk.injEq, and_true, true_and] at e'; omega)]; exact h1, by simpa [World.frozen?_setCell] using h2⟩
theorem At.other {W : World} {b g k : Nat} {cs : List Value} (h : At W b cs) (u : Value) (hg : g ≠ b) : At (W.setCell ⟨g, k, none⟩ u) b cs :=
  h.kept (Below.heap_setCell W ⟨g, k, none⟩ u b (by simp; omega))
theorem At.lt {W : World} {b : Nat} {v : Value} {cs : List Value} (h : At W b (v :: cs)) : b < W.heap.size := by
  refine Nat.lt_of_not_le fun hn => ?_
  have h2 : W.heap[b]? = none := by simp; omega
  have := (h 0 v rfl).1
  simp [World.cell?, h2] at this

theorem box1 {w w1 : World} {A : Array Value} {t : TypeId} (hb : Below (w.alloc (.cells A t)).heap.size (w.alloc (.cells A t)) w1) :
    At w1 w.heap.size A.toList ∧ Below w.heap.size w w1 ∧ w.heap.size + 1 ≤ w1.heap.size :=
  ⟨(At.new w A t).kept (hb.block _ (by simp)), ((Below.refl _ w).alloc (Nat.le_refl _) _).trans (hb.mono (by simp)), by have := hb.size; simpa using this⟩
theorem box2 {w w1 : World} {A B : Array Value} {t s : TypeId} (hb : Below ((w.alloc (.cells A t)).alloc (.cells B s)).heap.size ((w.alloc (.cells A t)).alloc (.cells B s)) w1) :
    At w1 w.heap.size A.toList ∧ At w1 (w.heap.size + 1) B.toList ∧ Below w.heap.size w w1 ∧ w.heap.size + 2 ≤ w1.heap.size := by
  obtain ⟨h2, h3, h4⟩ := box1 hb
  obtain ⟨h1, h5, h6⟩ := box1 h3
  rw [World.size_alloc] at h2 h4
  exact ⟨h1, h2, h5, h4⟩
end Go.Proofs.YtnchgeiinkaefaaGreatDoor.Boxes
end

section
/-
  spec.l2Write, spec.RuleText.
-/
namespace Go.Proofs.YtnchgeiinkaefaaGreatDoor.Rule
set_option linter.unusedVariables false
open Go.RowKit
open Boxes (At hide unhide)
open RegIn
open Tiers (T T0)
open Kinds hiding hide unhide below_trans ext_toList

/-- a world in which what there was is as it was -/
def Sb (w1 W : World) : Prop := Below w1.heap.size w1 W
theorem Sb.dec {w1 : World} (n : Int) (h : numOk n) (g : In (Sb w1)) : Calls Tryz.prog 110 #[.int .i64 n] g.x fun e w' => e = .returned (.string ⟨(Lib.itoa n).toArray⟩) ∧ Sb w1 w' :=
  (Dec.dec n g.x (by unfold numOk at h; omega) (by unfold numOk at h; omega)).mono fun e w' ⟨he, hb⟩ => ⟨he, Kinds.below_trans (w := w1) g.h hb⟩

def WrC (d : Nat) : Prop := ∀ (lo hi : Nat) (v : Value) (e : Ex) (w : World), EV lo hi w d v e → hi ≤ w.heap.size → allB e = true → cnt e ≤ 1000 →
  Calls Tryz.prog 85 #[v] w fun x w' => x = .returned (.string (bytesOf (wr e))) ∧ Below w.heap.size w w'

theorem wordC (k : Int) (w : World) (h : 3 ≤ k ∧ k ≤ 10) : Calls Tryz.prog 111 #[.int .i64 k] w fun x w' => x = .returned (.string (bytesOf (wordL k))) ∧ Below w.heap.size w w' := by
  have : k = 3 ∨ k = 4 ∨ k = 5 ∨ k = 6 ∨ k = 7 ∨ k = 8 ∨ k = 9 ∨ k = 10 := by omega
  rcases this with rfl | rfl | rfl | rfl | rfl | rfl | rfl | rfl
  all_goals
    clear h
    go_enter Tryz.func111, Tryz.ntmps111
    go_wp2
    go_ret
    exact ⟨rfl, below_alloc _ _⟩

theorem cat (a b : List UInt8) : (bytesOf a ++ bytesOf b) = bytesOf (a ++ b) := by
  apply ByteArray.ext; simp [bytesOf]
theorem bsize (a : List UInt8) : (bytesOf a).size = a.length := by simp [bytesOf, ByteArray.size]

theorem cat3 (a b : List UInt8) (c : UInt8) : (((⟨a.toArray⟩ : ByteArray) ++ ⟨#[c]⟩) ++ bytesOf b) = ⟨(a ++ c :: b).toArray⟩ := by
  apply ByteArray.ext; simp [bytesOf]
theorem wrS_part (k : Nat) (ks : List Ex) : (wrS (ks.take k)).length ≤ (wrS ks).length := by
  have := wrS_append (ks.take k) (ks.drop k)
  rw [List.take_append_drop] at this
  rw [this]; simp
theorem allL_at {l : List Ex} {k : Nat} (h : allL l = true) (hk : k < l.length) : allB (l.getD k E0) = true := allL_mem h _ (by simp [List.getD, hk])
theorem cntL_at {l : List Ex} {k : Nat} (hk : k < l.length) : cnt (l.getD k E0) ≤ cntL l := by
  have h1 := cntL_take hk
  have h2 := cntL_le l (k + 1)
  omega
theorem ES.at {lo hi : Nat} {W : World} {d : Nat} {v : Value} {l : List Ex} (h : ES lo hi W d v l) {k : Nat} (hk : k < l.length) : ∃ d' b o cap kv tv, d = d' + 1 ∧ v = .slice (some ⟨b, o, none⟩) l.length cap ∧ (lo ≤ b ∧ b < hi) ∧ (W.cell? ⟨b, o + k * 5, none⟩ = some (.int .i64 (l.getD k E0).kind) ∧ W.cell? ⟨b, o + k * 5 + 1, none⟩ = some (.int .i64 (l.getD k E0).num) ∧ W.cell? ⟨b, o + k * 5 + 2, none⟩ = some (.string (l.getD k E0).meter) ∧ W.cell? ⟨b, o + k * 5 + 3, none⟩ = some kv ∧ W.cell? ⟨b, o + k * 5 + 4, none⟩ = some tv) ∧ EV lo hi W d' (.agg #[.int .i64 (l.getD k E0).kind, .int .i64 (l.getD k E0).num, .string (l.getD k E0).meter, kv, tv]) (l.getD k E0) := by
  cases d with
  | zero => obtain ⟨rfl, _⟩ := h; simp at hk
  | succ d =>
    rcases h with ⟨rfl, _⟩ | ⟨b, o, cap, rfl, hl, h1, h2, hc⟩
    · simp at hk
    · obtain ⟨kv, tv, h3, h4, h5, h6⟩ := hc k hk
      exact ⟨d, b, o, cap, kv, tv, rfl, rfl, ⟨h1, h2⟩, h3, kv, tv, rfl, h4, h5, h6⟩

set_option maxRecDepth 20000 in
set_option maxHeartbeats 1600000 in
theorem wr_step {d : Nat} (H : ∀ d', d = d' + 1 → WrC d') : WrC d := by
  rintro lo hi v e w ⟨kv, tv, rfl, hz, hk, ht⟩ hhi ha hc
  have HE := hide (show EV lo hi w d (.agg #[.int .i64 e.kind, .int .i64 e.num, .string e.meter, kv, tv]) e from ⟨kv, tv, rfl, hz, hk, ht⟩)
  obtain ⟨ka, kc, rfl, hkl⟩ := hk.form
  have hl := wr_len e ha
  have hcn := cnt_eq e
  obtain ⟨k, n, m, ks, ts⟩ := e
  have ha' := ha
  rw [allB, Bool.and_eq_true] at ha
  obtain ⟨hn, hks⟩ := ha
  simp only [Ex.kind, Ex.num, Ex.meter, Ex.kids, Ex.tiers] at *
  generalize hr : wr (.mk k n m ks ts) = r
  rw [hr] at hl
  by_cases k1 : k = 1
  · subst k1
    obtain ⟨a1, a2, rfl, rfl⟩ := node_num hn
    rw [wr, if_pos rfl] at hr
    subst hr
    have hnb : -1000000000 ≤ n ∧ n ≤ 1000000000 := a2
    clear hk ht H HE
    go_enter Tryz.func85, Tryz.ntmps85
    go_wp2_with (fail)
    refine (Dec.dec n _ (by omega) (by omega)).mono ?_
    rintro x w1 ⟨rfl, hb1⟩
    have HB := hide (Boxes.box1 hb1).2.1
    clear hb1
    go_wp2_with (fail)
    go_ret
    exact ⟨rfl, unhide HB⟩
  by_cases k2 : k = 2
  · subst k2
    obtain ⟨a1, a2, rfl, rfl⟩ := node_name hn
    rw [wr, if_neg (by omega), if_pos rfl] at hr
    subst hr
    clear hk ht H HE
    go_enter Tryz.func85, Tryz.ntmps85
    go_wp2_with (fail)
    go_ret
    exact ⟨by rw [bytes_self]; rfl, below_alloc _ _⟩
  obtain ⟨h3, a1, a2, a3, rfl, a4, a5, a6, a7⟩ := node_more hn k1 k2
  rw [wr, if_neg k1, if_neg k2] at hr
  have HR := hide hr
  have b1 : (k == 1) = false := by simpa using k1
  have b2 : (k == 2) = false := by simpa using k2
  have hwl := wordL_len h3
  clear hr a1
  have hrl : r.length ≤ 200000 := by omega
  have hrl2 : (40 :: (wordL k ++ (wrS ks ++ (wrO k n ts ++ [41])))).length = r.length := by rw [unhide HR]
  have hrl3 : 1 + (wordL k).length + (wrS ks).length + (wrO k n ts).length + 1 ≤ 200000 := by simp at hrl2; omega
  go_enter Tryz.func85, Tryz.ntmps85
  go_wp2_with (fail)
  refine (wordC k _ h3).mono ?_
  rintro x w1 ⟨rfl, hb1⟩
  obtain ⟨q1, hB, hz1⟩ := Boxes.box1 hb1
  have A1 := hide q1
  have HB := hide hB
  have hbs : (bytesOf (wordL k)).size ≤ 8 := by rw [bsize]; exact hwl
  clear hb1 hB q1
  go_wp2_with (fail)
  go_loopw [3, 4] (fun out i wr => ∃ (j : Nat) (L : List UInt8), j ≤ ks.length ∧ i = .int .i64 j ∧ out = .string ⟨L.toArray⟩ ∧ L.length ≤ 200000 ∧ Hid (L = 40 :: (wordL k ++ wrS (ks.take j))) ∧ Hid (Below w1.heap.size w1 wr)) (fun _ i _ => ks.length - (intOf i).toNat)
  case atStart =>
    refine ⟨0, 40 :: wordL k, by omega, rfl, ?_, by simp; omega, hide (by simp [wrS]), hide (Below.refl _ _)⟩
    apply congrArg Value.string
    apply ByteArray.ext; simp [bytesOf]
  case round =>
    obtain ⟨j, L, hj, rfl, rfl, hL, hLe, hb⟩ := hrel
    have a1' := (unhide A1).below (unhide hb) (by omega)
    obtain ⟨e3, _⟩ := a1' 3 _ rfl
    have hzr : w.heap.size + 1 ≤ wr.heap.size := Nat.le_trans hz1 (unhide hb).size
    clear a1'
    by_cases hlt : j < ks.length
    · obtain ⟨d', b, o, cap, kv', tv', rfl, hv, hbb, ⟨c0', c1', c2', c3', c4'⟩, hev⟩ := (hk.kept (same_below (Kinds.below_trans (unhide HB) (unhide hb)) hhi)).at hlt
      simp only [Value.slice.injEq, true_and] at hv
      obtain ⟨rfl, rfl⟩ := hv
      have HEV := hide hev
      have HKID := hide (H d' rfl)
      have HAL := hide (allL_at hks hlt)
      have hcj := cntL_at hlt
      have HTK : Hid (∀ x, Rule.wr (ks.getD j E0) = x → 40 :: (wordL k ++ wrS (ks.take (j + 1))) = L ++ 32 :: x) := hide (fun x hx => by rw [unhide hLe, wrS_take hlt, hx]; simp)
      have hwl2 : (wrS (ks.take (j + 1))).length ≤ (wrS ks).length := wrS_part _ _
      have hwl3 : (wrS (ks.take (j + 1))).length = (wrS (ks.take j)).length + 1 + (Rule.wr (ks.getD j E0)).length := by rw [wrS_take hlt]; simp; omega
      have hLl : L.length = 1 + (wordL k).length + (wrS (ks.take j)).length := by rw [unhide hLe]; simp; omega
      have i1 : (j : Int) < (ks.length : Int) := by omega
      clear hev H
      generalize ks.getD j E0 = ex at *
      obtain ⟨xk, xn, xm, xks, xts⟩ := ex
      simp only [Ex.kind, Ex.num, Ex.meter] at c0' c1' c2' c3' c4' HEV
      go_wp2_with (fail)
      refine (unhide HKID lo hi _ _ _ (unhide HEV) (Nat.le_trans hhi (Nat.le_trans (unhide HB).size (unhide hb).size)) (unhide HAL) (by omega)).mono ?_
      rintro x w2 ⟨rfl, hb2⟩
      have HB2 := hide (Kinds.below_trans (unhide hb) hb2)
      have hsz : (bytesOf (Rule.wr (.mk xk xn xm xks xts))).size = (Rule.wr (.mk xk xn xm xks xts)).length := bsize _
      clear hb2 hb c0' c1' c2' c3' c4' HEV
      generalize hX : Rule.wr (.mk xk xn xm xks xts) = X at *
      have HTX := hide (unhide HTK X rfl)
      clear HTK hX
      go_wp2_with (fail)
      refine ⟨⟨j + 1, L ++ 32 :: X, by omega, by go_num, congrArg Value.string (cat3 L X 32), by simp; omega, hide (unhide HTX).symm, HB2⟩, by simp [intOf]; omega⟩
    · obtain rfl : j = ks.length := by omega
      have hLe2 : L = 40 :: (wordL k ++ wrS ks) := by rw [unhide hLe, List.take_length]
      have HL2 := hide hLe2
      have hLl : L.length = 1 + (wordL k).length + (wrS ks).length := by rw [hLe2]; simp; omega
      clear hLe hLe2
      have A2 := hide ((unhide A1).below (unhide hb) (by omega))
      have HB2 := hide (Kinds.below_trans (unhide HB) (unhide hb))
      obtain ⟨v0, _⟩ := (unhide A2) 0 _ rfl
      by_cases k6 : k = 6
      · subst k6
        obtain rfl := a7 (by omega)
        obtain ⟨v1, _⟩ := (unhide A2) 1 _ rfl
        obtain ⟨ta, tc, rfl⟩ : ∃ a c, tv = .slice a 0 c := by
          rcases ht with ⟨_, a, c, h⟩ | ⟨b, o, cap, h, _⟩
          · exact ⟨a, c, h⟩
          · exact ⟨_, _, h⟩
        have hno := itoa_short a4
        have hnb : -1000000000 ≤ n ∧ n ≤ 1000000000 := a4
        go_wp2_with (fail)
        refine (Dec.dec n _ (by omega) (by omega)).mono ?_
        rintro x w2 ⟨rfl, hb2⟩
        have HB3 := hide (Kinds.below_trans (unhide HB2) hb2)
        have a3' := (unhide A2).below hb2 (by omega)
        obtain ⟨u4, _⟩ := a3' 4 _ rfl
        clear hb2 v0 v1 A2 HB2 a3'
        go_wp2_with (fail)
        refine wp_loop_rounds 1 ?_
        rw [rounds_succ]
        go_wp2_with (fail)
        go_ret
        refine ⟨?_, unhide HB3⟩
        rw [← unhide HR]
        refine congrArg (fun z => Ending.returned (Value.string z)) ?_
        apply ByteArray.ext
        simp [bytesOf, wrO, wrT, unhide HL2]
      · have k6b : (k == 6) = false := by simpa using k6
        have hO : wrO k n ts = wrT ts := by simp [wrO, k6]
        rw [hO] at HR hrl3
        obtain ⟨v4, _⟩ := (unhide A2) 4 _ rfl
        by_cases hts : ts = []
        · subst hts
          obtain ⟨ta, tc, rfl⟩ : ∃ a c, tv = .slice a 0 c := by
            rcases ht with ⟨_, a, c, h⟩ | ⟨b, o, cap, h, _⟩
            · exact ⟨a, c, h⟩
            · exact ⟨_, _, h⟩
          go_wp2_with (fail)
          refine wp_loop_rounds 1 ?_
          rw [rounds_succ]
          go_wp2_with (fail)
          go_ret
          refine ⟨?_, unhide HB2⟩
          rw [← unhide HR]
          refine congrArg (fun z => Ending.returned (Value.string z)) ?_
          apply ByteArray.ext
          simp [bytesOf, wrT, unhide HL2]
        · have k10 : k = 10 := by
            refine Classical.byContradiction fun h => hts (a7 h)
          obtain ⟨t1, t2, t3⟩ := tier_ok (a6 k10)
          rcases ht with ⟨h, _⟩ | ⟨tb, tof, tcap, rfl, hb1, hb2, htc⟩
          · exact absurd h hts
          have HTC := hide htc
          have HNO := hide t3
          clear htc t3
          go_wp2_with (fail)
          go_loopw [3, 5] (fun out i wr' => ∃ (j : Nat) (M : List UInt8), j ≤ ts.length ∧ i = .int .i64 j ∧ out = .string ⟨M.toArray⟩ ∧ M.length ≤ 200000 ∧ Hid (M = L ++ wrT (ts.take j)) ∧ Hid (Below w1.heap.size w1 wr')) (fun _ i _ => ts.length - (intOf i).toNat)
          case atStart => exact ⟨0, L, by omega, rfl, rfl, hL, hide (by simp [wrT]), hb⟩
          case round =>
            obtain ⟨j, M, hj, rfl, rfl, hM, hMe, hbj⟩ := hrel
            clear v0 v4
            have a3' := (unhide A1).below (unhide hbj) (by omega)
            obtain ⟨v4, _⟩ := a3' 4 _ rfl
            clear a3'
            have HBJ := hide (Kinds.below_trans (unhide HB) (unhide hbj))
            by_cases hlt : j < ts.length
            · obtain ⟨d0', d1'⟩ := unhide HTC j hlt
              have hbw : tb < w.heap.size := by omega
              have D0 := hide d0'
              have D1 := hide d1'
              have HBJ2 : Hid (∀ g : In (Sb w1), Below w.heap.size w g.x) := hide (fun g => Kinds.below_trans (unhide HB) g.h)
              have d0 := ((unhide HBJ).cell (p := ⟨tb, tof + j * 2, none⟩) hbw).trans d0'
              have d1 := ((unhide HBJ).cell (p := ⟨tb, tof + j * 2 + 1, none⟩) hbw).trans d1'
              have hnn := unhide HNO (ts.getD j T0) (by simp [List.getD, hlt])
              have hte : ts.take (j + 1) = ts.take j ++ [ts.getD j T0] := by rw [List.take_add_one, List.getElem?_eq_getElem hlt]; simp [List.getD, hlt]
              have hwt : (wrT (ts.take (j + 1))).length ≤ (wrT ts).length := by
                have := wrT_append (ts.take (j + 1)) (ts.drop (j + 1))
                rw [List.take_append_drop] at this
                rw [this]; simp
              have HTX : Hid (L ++ wrT (ts.take (j + 1)) = M ++ 32 :: (Lib.itoa (ts.getD j T0).1 ++ 58 :: Lib.itoa (ts.getD j T0).2)) := hide (by
                rw [hte, wrT_append, unhide hMe]; simp [wrT])
              have hMl : M.length + (2 + (Lib.itoa (ts.getD j T0).1).length + (Lib.itoa (ts.getD j T0).2).length) ≤ 200000 := by
                have := congrArg List.length (unhide HTX)
                simp only [List.length_append, List.length_cons] at this
                omega
              have i1 : (j : Int) < (ts.length : Int) := by omega
              clear d0' d1' hte hMe hwt
              generalize ts.getD j T0 = tt at *
              obtain ⟨p1, p2⟩ := tt
              obtain ⟨⟨n1, n2⟩, n3, n4⟩ := hnn
              simp only at d0 d1 n1 n2 n3 n4 hMl HTX D0 D1
              have HX : Hid (Sb w1 wr.drew) := hide (show Below w1.heap.size w1 wr.drew from ⟨(unhide hbj).os, (unhide hbj).tape, (unhide hbj).output, (unhide hbj).size, (unhide hbj).block⟩)
              have g4 : ∀ g : In (Sb w1), g.x.cell? ⟨w.heap.size, 4, none⟩ = some (.slice (some ⟨tb, tof, none⟩) ts.length tcap) := fun g => ((unhide A1).below g.h (by omega) 4 _ rfl).1
              have g0 : ∀ g : In (Sb w1), g.x.cell? ⟨tb, tof + j * 2, none⟩ = some (.int .i64 p1) := fun g => ((unhide HBJ2 g).cell (p := ⟨tb, tof + j * 2, none⟩) hbw).trans (unhide D0)
              have g1 : ∀ g : In (Sb w1), g.x.cell? ⟨tb, tof + j * 2 + 1, none⟩ = some (.int .i64 p2) := fun g => ((unhide HBJ2 g).cell (p := ⟨tb, tof + j * 2 + 1, none⟩) hbw).trans (unhide D1)
              have HCD : Hid (∀ (g : In (Sb w1)) (p : Int), (p = p1 ∨ p = p2) → Calls Tryz.prog 110 #[.int .i64 p] g.x fun e w' => e = .returned (.string ⟨(Lib.itoa p).toArray⟩) ∧ Sb w1 w') := hide (fun g p hp => Sb.dec p (by rcases hp with rfl | rfl; exact ⟨n1, n2⟩; exact ⟨n3, n4⟩) g)
              have HN : Hid (∀ g : In (Sb w1), Below w1.heap.size w1 g.x) := hide (fun g => g.h)
              generalize hS : Sb w1 = S at *
              generalize hI1 : Lib.itoa p1 = I1 at *
              generalize hI2 : Lib.itoa p2 = I2 at *
              clear d0 d1 D0 D1 HBJ2
              go_wp2_with (fail)
              refine wp_region_in S (by kernel_rfl) (by kernel_rfl) (unhide HX) ?_
              intro hne
              repeat (go_big_quiet_step (exact call_in _ (unhide HCD _ _ (by first | exact .inl rfl | exact .inr rfl))))
              refine wpQuiet_nil ?_
              rintro _ ⟨g, rfl⟩
              have HG := hide (unhide HN g)
              generalize g.x = gx at *
              clear g0 g1 g4 HCD HN hne HX
              go_wp2_with (fail)
              refine ⟨⟨j + 1, M ++ 32 :: (I1 ++ 58 :: I2), by omega, by go_num, congrArg Value.string ?_, by simp; omega, hide (unhide HTX).symm, HG⟩, by simp [intOf]; omega⟩
              apply ByteArray.ext; simp
            · obtain rfl : j = ts.length := by omega
              have hM2 : M = L ++ wrT ts := by rw [unhide hMe, List.take_length]
              have hMl2 : M.length + 1 ≤ 200000 := by
                have := congrArg List.length hM2
                simp only [List.length_append] at this
                omega
              have HM2 := hide hM2
              clear hMe hM2
              go_wp2_with (fail)
              go_ret
              refine ⟨?_, unhide HBJ⟩
              rw [← unhide HR]
              refine congrArg (fun z => Ending.returned (Value.string z)) ?_
              apply ByteArray.ext
              simp [bytesOf, unhide HM2, unhide HL2]

theorem wrC : ∀ d, WrC d
  | 0 => wr_step (fun d' h => by omega)
  | d + 1 => wr_step (fun d' h => by cases h; exact wrC d)

/-- the text of an expression; none, if it is not ok -/
def textE (e : Ex) : List UInt8 := if okE e = true then wr e else []
theorem ok_all {e : Ex} (h : okE e = true) : allB e = true ∧ cnt e ≤ 40 ∧ dep e ≤ 8 := by
  unfold okE at h
  simp only [Bool.and_eq_true, decide_eq_true_eq] at h
  exact ⟨h.1.1, h.1.2, h.2⟩

set_option maxRecDepth 20000 in
theorem textS (d lo hi : Nat) (v : Value) (e : Ex) (w : World) (h : EV lo hi w d v e) (hhi : hi ≤ w.heap.size) (hw : wt e ≤ 1048576) :
    Calls Tryz.prog 52 #[v] w fun x w' => x = .returned (.string (bytesOf (textE e))) ∧ Below w.heap.size w w' := by
  obtain ⟨ka, kc, ta, tc, rfl⟩ := h.form
  have HE := hide h
  generalize hr : textE e = r
  have HR := hide hr
  clear h hr
  go_enter Tryz.func52, Tryz.ntmps52
  go_wp2_with (fail)
  refine (okS d lo hi _ e _ (keptE (unhide HE) hhi (below_alloc _ _)) (by simp; omega) hw).mono ?_
  rintro x w1 ⟨rfl, hb1⟩
  obtain ⟨q1, hB, hz1⟩ := Boxes.box1 hb1
  have HB := hide hB
  obtain ⟨c0, _⟩ := q1 0 _ rfl
  obtain ⟨c1, _⟩ := q1 1 _ rfl
  obtain ⟨c2, _⟩ := q1 2 _ rfl
  obtain ⟨c3, _⟩ := q1 3 _ rfl
  obtain ⟨c4, _⟩ := q1 4 _ rfl
  clear hb1 hB q1
  cases ho : okE e with
  | false =>
    obtain rfl : r = [] := by rw [← unhide HR]; unfold textE; rw [ho]; rfl
    clear ho
    go_wp2_with (fail)
    go_ret
    exact ⟨rfl, unhide HB⟩
  | true =>
    obtain rfl : r = wr e := by rw [← unhide HR]; unfold textE; rw [ho]; rfl
    obtain ⟨o1, o2, o3⟩ := ok_all ho
    clear ho
    go_wp2_with (fail)
    refine (wrC d lo hi _ e _ (keptE (unhide HE) hhi (unhide HB)) (Nat.le_trans hhi (unhide HB).size) o1 (by omega)).mono ?_
    rintro x w2 ⟨rfl, hb2⟩
    have HB2 := hide (Kinds.below_trans (unhide HB) hb2)
    clear hb2
    go_wp2_with (fail)
    go_ret
    exact ⟨rfl, unhide HB2⟩
end Go.Proofs.YtnchgeiinkaefaaGreatDoor.Rule
end

section
/-
  DERIVED: THE SHELF's CONTRACTS AT THIS DUMP, IN PLAIN WORDS (tools/lay-plain.mjs out of 'YtnchgeiinkaefaaGreatDoorShelfF.lean', which tools/lay-shelf.mjs wrote): THE SAME DECLARATIONS UNDER THE SAME NAMES: 'import', 'namespace', 'open', 'def', 'theorem' AND NOTHING ELSE: no command of the shelf's: FOR A HAND-IN. Each laying: the table of numbers ('.._ren') and one theorem, a field a fact of the dump's own or the kernel's comparison; each contract: ONE APPLICATION.
-/
namespace Go.Proofs
open Go.Shelf
def Tryz.lays157_ren : Go.Shelf.Ren := ⟨fun | 157 => 122 | 229 => 143 | 199 => 144 | 261 => 168 | 311 => 197 | 312 => 198 | n => n, fun | 9 => 9 | 31 => 158 | 3 => 3 | 5 => 5 | 4 => 4 | 119 => 228 | 0 => 0 | 40 => 230 | 152 => 254 | 21 => 21 | 154 => 256 | 51 => 243 | 141 => 258 | 196 => 284 | 193 => 281 | 198 => 287 | 49 => 285 | 194 => 282 | 201 => 290 | 226 => 305 | 46 => 214 | 227 => 306 | n => n, fun | 0 => 1 | 6 => 2 | n => n⟩
theorem Tryz.lays157 : Go.Proofs.Lays.n157 Tryz.prog Tryz.lays157_ren := {
  mixed := by kernel_rfl
  f157 := Tryz.func122.trans (congrArg some (by kernel_rfl))
  f199 := Tryz.func144.trans (congrArg some (by kernel_rfl))
  f229 := Tryz.func143.trans (congrArg some (by kernel_rfl))
  f261 := Tryz.func168.trans (congrArg some (by kernel_rfl))
  f311 := Tryz.func197.trans (congrArg some (by kernel_rfl))
  f312 := Tryz.func198.trans (congrArg some (by kernel_rfl))
  t0 := Tryz.underlying0
  a0 := Tryz.isAgg0
  z0 := Tryz.sizeOf0
  v0 := Tryz.zeroValue0
  t3 := Tryz.underlying3
  a3 := Tryz.isAgg3
  z3 := Tryz.sizeOf3
  v3 := Tryz.zeroValue3
  t4 := Tryz.underlying4
  a4 := Tryz.isAgg4
  z4 := Tryz.sizeOf4
  v4 := Tryz.zeroValue4
  t5 := Tryz.underlying5
  a5 := Tryz.isAgg5
  z5 := Tryz.sizeOf5
  v5 := Tryz.zeroValue5
  t9 := Tryz.underlying9
  a9 := Tryz.isAgg9
  z9 := Tryz.sizeOf9
  v9 := Tryz.zeroValue9
  t21 := Tryz.underlying21
  a21 := Tryz.isAgg21
  z21 := Tryz.sizeOf21
  v21 := Tryz.zeroValue21
  t31 := Tryz.underlying158
  a31 := Tryz.isAgg158
  z31 := Tryz.sizeOf158
  v31 := Tryz.zeroValue158
  t40 := Tryz.underlying230
  a40 := Tryz.isAgg230
  z40 := Tryz.sizeOf230
  v40 := Tryz.zeroValue230
  t46 := Tryz.underlying214
  a46 := Tryz.isAgg214
  z46 := Tryz.sizeOf214
  v46 := Tryz.zeroValue214
  t49 := Tryz.underlying285
  a49 := Tryz.isAgg285
  z49 := Tryz.sizeOf285
  v49 := Tryz.zeroValue285
  t51 := Tryz.underlying243
  a51 := Tryz.isAgg243
  z51 := Tryz.sizeOf243
  v51 := Tryz.zeroValue243
  t119 := Tryz.underlying228
  a119 := Tryz.isAgg228
  z119 := Tryz.sizeOf228
  t141 := Tryz.underlying258
  a141 := Tryz.isAgg258
  z141 := Tryz.sizeOf258
  v141 := Tryz.zeroValue258
  t152 := Tryz.underlying254
  a152 := Tryz.isAgg254
  z152 := Tryz.sizeOf254
  v152 := Tryz.zeroValue254
  t154 := Tryz.underlying256
  a154 := Tryz.isAgg256
  z154 := Tryz.sizeOf256
  v154 := Tryz.zeroValue256
  t193 := Tryz.underlying281
  a193 := Tryz.isAgg281
  z193 := Tryz.sizeOf281
  v193 := Tryz.zeroValue281
  t194 := Tryz.underlying282
  a194 := Tryz.isAgg282
  z194 := Tryz.sizeOf282
  v194 := Tryz.zeroValue282
  t196 := Tryz.underlying284
  a196 := Tryz.isAgg284
  z196 := Tryz.sizeOf284
  v196 := Tryz.zeroValue284
  t198 := Tryz.underlying287
  a198 := Tryz.isAgg287
  z198 := Tryz.sizeOf287
  v198 := Tryz.zeroValue287
  t201 := Tryz.underlying290
  a201 := Tryz.isAgg290
  z201 := Tryz.sizeOf290
  v201 := Tryz.zeroValue290
  t226 := Tryz.underlying305
  a226 := Tryz.isAgg305
  z226 := Tryz.sizeOf305
  v226 := Tryz.zeroValue305
  t227 := Tryz.underlying306
  a227 := Tryz.isAgg306
  z227 := Tryz.sizeOf306
  v227 := Tryz.zeroValue306
  g0 := by kernel_rfl
  g6 := by kernel_rfl }
open Go.RowKit Go.Lib in
/-- **strings.Fields AT EVERY STRING, VALID UTF-8 OR NOT.** (LAID: no walk: one application.) -/
theorem Tryz.strings_Fields_any (s : ByteArray) (w : World) (hs : s.size < 4294967281) (htab : Lib.TabIs Tryz.prog w "strings.asciiSpace" .u8 Lib.asciiSpaceTab) (hW : Lib.WhiteTab 2 w) :
    Calls Tryz.prog 122 #[.string s] w fun e w' => ∃ A, e = .returned (.slice (some ⟨A, 0, none⟩) (Lib.fieldsD s.data.toList).length (Lib.fieldsD s.data.toList).length) ∧ w.heap.size ≤ A ∧
      w'.ownsRow w.heap.size 9 1 (.slice (some ⟨A, 0, none⟩) (Lib.fieldsD s.data.toList).length (Lib.fieldsD s.data.toList).length) (Lib.fieldsD s.data.toList).length ((Lib.fieldsD s.data.toList).map fun x => Value.string ⟨x.toArray⟩) ∧ Below w.heap.size w w' := Any.strings_Fields_any Tryz.lays157 (by kernel_rfl) (by kernel_rfl) (by kernel_rfl) s w hs htab hW
end Go.Proofs
end

section
/-
  impl.readLeaf, impl.readOwn.
-/
namespace Go.Proofs.YtnchgeiinkaefaaGreatDoor.Rule
set_option linter.unusedVariables false
open Go.RowKit
open Tiers (T T0 TR hide unhide below_trans)
open Kinds hiding hide unhide below_trans ext_toList

/-- what of the library's variables the reader reads -/
def EnvR (w : World) : Prop := Text.Env w ∧ Lib.TabIs Tryz.prog w "strings.asciiSpace" .u8 Lib.asciiSpaceTab ∧ Lib.WhiteTab 2 w
theorem white_kept {g : Nat} {w w' : World} (h : Lib.WhiteTab g w) (hb : Below w.heap.size w w') : Lib.WhiteTab g w' := by
  obtain ⟨T, oT, R, oR, h1, h2, h3, h4, h5⟩ := h
  have k : ∀ {b o : Nat} {v : Value}, w.cell? ⟨b, o, none⟩ = some v → w'.cell? ⟨b, o, none⟩ = some v := fun {b o v} h => (hb.cell (p := ⟨b, o, none⟩) (lt_of_cell h)).trans h
  exact ⟨T, oT, R, oR, k h1, k h2, k h3, k h4, fun i hi => k (h5 i hi)⟩
theorem EnvR.kept {w w' : World} (h : EnvR w) (hb : Below w.heap.size w w') : EnvR w' := ⟨h.1.kept hb, Text.var_kept h.2.1 hb, white_kept h.2.2 hb⟩

/-- strconv.Atoi -/
theorem atoiC (s : ByteArray) (w : World) (hs : s.size ≤ 1000000) (he : Text.Env w) : Calls Tryz.prog 135 #[.string s] w fun e w' => ∃ (n : Int) (er : Value), e = .returned (.tuple #[.int .i64 n, er]) ∧ ((Lib.atoiAll s.data.toList = .ok n ∧ er = .nilIface) ∨ ((∀ k, Lib.atoiAll s.data.toList ≠ .ok k) ∧ ∃ N, er = .iface 278 (.pointer (some ⟨N, 0, none⟩)))) ∧ Below w.heap.size w w' := by
  cases hA : Lib.atoiAll s.data.toList
  · next v =>
    refine (Tryz.strconv_Atoi_ok s (by omega) v hA _).mono ?_
    rintro e w2 ⟨rfl, hw2⟩
    refine ⟨v, _, rfl, .inl ⟨rfl, rfl⟩, ?_⟩
    rcases hw2 with rfl | ⟨t, rfl⟩
    · exact Below.refl _ _
    · exact Lib.bytesWorld_below _ _ _
  · obtain ⟨tp, p, hv⟩ := he.2.2.1
    refine (Tryz.strconv_Atoi_syntax_var s (by omega) hA tp p _ hv).mono ?_
    rintro e w2 ⟨N, rfl, hN, hcells, hb2⟩
    exact ⟨_, _, rfl, .inr ⟨fun k => by simp, N, rfl⟩, hb2⟩
  · obtain ⟨tp, p, hv⟩ := he.2.2.2
    refine (Tryz.strconv_Atoi_range_var s (by omega) hA tp p _ hv).mono ?_
    rintro e w2 ⟨N, rfl, hN, hcells, hb2⟩
    exact ⟨_, _, rfl, .inr ⟨fun k => by simp, N, rfl⟩, hb2⟩

/-- the value of an expression with no lists -/
abbrev leafV (e : Ex) : Value := .agg #[.int .i64 e.kind, .int .i64 e.num, .string e.meter, .slice none 0 0, .slice none 0 0]

/-- five cells of a box set anew -/
theorem at_put5 {W : World} {b : Nat} {a0 a1 a2 a3 a4 : Value} (h : Boxes.At W b [a0, a1, a2, a3, a4]) (v0 v1 v2 v3 v4 : Value) :
    Boxes.At (((((W.setCell ⟨b, 0, none⟩ v0).setCell ⟨b, 1, none⟩ v1).setCell ⟨b, 2, none⟩ v2).setCell ⟨b, 3, none⟩ v3).setCell ⟨b, 4, none⟩ v4) b [v0, v1, v2, v3, v4] :=
  ((((h.set 0 v0).set 1 v1).set 2 v2).set 3 v3).set 4 v4
theorem below_put5 {B : Nat} {w W : World} {b : Nat} (h : Below B w W) (hB : B ≤ b) (v0 v1 v2 v3 v4 : Value) :
    Below B w (((((W.setCell ⟨b, 0, none⟩ v0).setCell ⟨b, 1, none⟩ v1).setCell ⟨b, 2, none⟩ v2).setCell ⟨b, 3, none⟩ v3).setCell ⟨b, 4, none⟩ v4) :=
  ((((h.setCell (p := ⟨b, 0, none⟩) hB v0).setCell (p := ⟨b, 1, none⟩) hB v1).setCell (p := ⟨b, 2, none⟩) hB v2).setCell (p := ⟨b, 3, none⟩) hB v3).setCell (p := ⟨b, 4, none⟩) hB v4

set_option maxHeartbeats 1000000 in
/-- impl.readLeaf -/
theorem leafI (wd : List UInt8) (w : World) (hs : wd.length ≤ 1000000) (he : Text.Env w) : Calls Tryz.prog 118 #[.string (bytesOf wd)] w fun x w' => ∃ e, x = .returned (leafV e) ∧ LeafI wd e ∧ (e.kids = [] ∧ e.tiers = [] ∧ e.meter.size ≤ 1000000) ∧ Below w.heap.size w w' := by
  have hl : (bytesOf wd).size = wd.length := bsize wd
  have hd : (bytesOf wd).data.toList = wd := by simp [bytesOf]
  go_enter Tryz.func118, Tryz.ntmps118
  go_wp2_with (fail)
  refine (atoiC (bytesOf wd) _ (by omega) (he.kept (below_alloc _ _))).mono ?_
  rintro x w1 ⟨n, er, rfl, h, hb⟩
  rw [hd] at h
  obtain ⟨q1, hB, hz1⟩ := Boxes.box1 hb
  have HB := hide hB
  obtain ⟨c0, f0⟩ := q1 0 _ rfl
  obtain ⟨c1, f1⟩ := q1 1 _ rfl
  obtain ⟨c2, f2⟩ := q1 2 _ rfl
  obtain ⟨c3, f3⟩ := q1 3 _ rfl
  obtain ⟨c4, f4⟩ := q1 4 _ rfl
  have Q1 := hide q1
  clear hb hB q1
  rcases h with ⟨hA, rfl⟩ | ⟨hA, N, rfl⟩
  · have HA := hide hA
    clear hA
    go_wp2_with (fail)
    have hA5 := at_put5 (unhide Q1) (.int .i64 1) (.int .i64 n) (.string (⟨#[]⟩)) (.slice none 0 0) (.slice none 0 0)
    obtain ⟨r0, _⟩ := hA5 0 _ rfl
    obtain ⟨r1, _⟩ := hA5 1 _ rfl
    obtain ⟨r2, _⟩ := hA5 2 _ rfl
    obtain ⟨r3, _⟩ := hA5 3 _ rfl
    obtain ⟨r4, _⟩ := hA5 4 _ rfl
    exact bodyPost_ret (v := leafV (.mk 1 n (⟨#[]⟩) [] [])) (by simp [results, Tryz.results118, go_sem, r0, r1, r2, r3, r4, Ex.kind, Ex.num, Ex.meter]) rfl ⟨_, rfl, .inl ⟨n, unhide HA, rfl⟩, ⟨rfl, rfl, by first | (show (bytesOf wd).size ≤ _; omega) | (show (⟨#[]⟩ : ByteArray).size ≤ 1000000; decide)⟩, below_put5 (unhide HB) (Nat.le_refl _) _ _ _ _ _⟩
  · have HA := hide hA
    clear hA
    go_wp2_with (fail)
    have hA5 := at_put5 (unhide Q1) (.int .i64 2) (.int .i64 0) (.string (bytesOf wd)) (.slice none 0 0) (.slice none 0 0)
    obtain ⟨r0, _⟩ := hA5 0 _ rfl
    obtain ⟨r1, _⟩ := hA5 1 _ rfl
    obtain ⟨r2, _⟩ := hA5 2 _ rfl
    obtain ⟨r3, _⟩ := hA5 3 _ rfl
    obtain ⟨r4, _⟩ := hA5 4 _ rfl
    exact bodyPost_ret (v := leafV (.mk 2 0 (bytesOf wd) [] [])) (by simp [results, Tryz.results118, go_sem, r0, r1, r2, r3, r4, Ex.kind, Ex.num, Ex.meter]) rfl ⟨_, rfl, .inr ⟨unhide HA, rfl⟩, ⟨rfl, rfl, by first | (show (bytesOf wd).size ≤ _; omega) | (show (⟨#[]⟩ : ByteArray).size ≤ 1000000; decide)⟩, below_put5 (unhide HB) (Nat.le_refl _) _ _ _ _ _⟩
end Go.Proofs.YtnchgeiinkaefaaGreatDoor.Rule
end

section
/-
  What the listed package variables give: all that the reader of tariffs reads.
-/
namespace Go.Proofs.YtnchgeiinkaefaaGreatDoor.Laid
open Go.RowKit

theorem gAS : Tryz.prog.globalNamed "strings.asciiSpace" = some 1 := by kernel_rfl
theorem tAS : (Tryz.prog.globals[1]?).map (·.type) = some 228 := by kernel_rfl
theorem cAS : Tryz.prog.cellsOf 228 = 256 := by kernel_rfl
theorem cU8 : Tryz.prog.cellsOf 5 = 1 := by kernel_rfl
theorem dAS : (Rows.laid_strings_asciiSpace : DataW Unit) = Lib.tabData .u8 Lib.asciiSpaceTab := by kernel_rfl
theorem dWS : (Rows.laid_unicode_White_Space : DataW Unit) = Lib.whiteData := by kernel_rfl

theorem env7 {W : World} {x y : String × DataW Unit} {rest : List (String × DataW Unit)} (hsh : W.ShapedOpen Tryz.prog) (h : laidMet Tryz.prog (x :: y :: ("internal/strconv.uint64pow10", Rows.laid_internal_strconv_uint64pow10) :: ("strconv.ErrRange", Rows.laid_strconv_ErrRange) :: ("strconv.ErrSyntax", Rows.laid_strconv_ErrSyntax) :: ("unicode.White_Space", Rows.laid_unicode_White_Space) :: ("strings.asciiSpace", Rows.laid_strings_asciiSpace) :: rest) W) : Rule.EnvR W := by
  refine ⟨env5 hsh h, ?_, ?_⟩
  · have h6 := h.tail.tail.tail.tail.tail.tail
    rw [dAS] at h6
    exact Lib.tabIs_of_head gAS tAS Tryz.underlying228 Tryz.underlying5 cU8 cAS h6
  · have h5 := Lib.laidMet.reads h (n := "unicode.White_Space") (d := Rows.laid_unicode_White_Space) (.tail _ (.tail _ (.tail _ (.tail _ (.tail _ (.head _))))))
    rw [dWS] at h5
    exact whiteTab_of_reads { Tryz.lays157 with } ⟨by kernel_rfl, by kernel_rfl, by kernel_rfl, by kernel_rfl, by kernel_rfl, by kernel_rfl, by kernel_rfl, by kernel_rfl⟩ h5
end Go.Proofs.YtnchgeiinkaefaaGreatDoor.Laid
end
