/-
  Texts of this proof laid together, in build order; each says of itself what it holds.
-/
import Derived.Test.YtnchgeiinkaefaaGreatDoorZax
import Derived.Test.YtnchgeiinkaefaaGreatDoorZaw
import Derived.Test.YtnchgeiinkaefaaGreatDoorZao
import Derived.Test.YtnchgeiinkaefaaGreatDoorZam
import Derived.Test.YtnchgeiinkaefaaGreatDoorZah
import Derived.Deep.AppendLies
import Derived.Laws.AppendOwnNone
import Derived.Test.YtnchgeiinkaefaaGreatDoorRows
import Derived.Lib.LaidTab
import Derived.Stop.LaidErr
section
/-
  impl.readExpr.
-/
namespace Go.Proofs.YtnchgeiinkaefaaGreatDoor.Rule
set_option linter.unusedVariables false
open Go.RowKit
open Tiers (T T0 TR hide unhide below_trans)
open Kinds hiding hide unhide below_trans ext_toList

/-- readExpr at texts of at most L bytes, n deep at most -/
def ReadC (n : Nat) : Prop := ∀ (t : List UInt8) (w : World), t.length < n → t.length ≤ 1000 → EnvR w →
  Calls Tryz.prog 95 #[.string (bytesOf t)] w fun x w' => ∃ (e : Ex) (kv tv : Value) (r : List UInt8), x = .returned (.tuple #[.agg #[.int .i64 e.kind, .int .i64 e.num, .string e.meter, kv, tv], .string (bytesOf r)]) ∧ ReadsI n t e r ∧ OX w' n w.heap.size w'.heap.size (e, kv, tv) ∧ Below w.heap.size w w'

theorem trimP (t : List UInt8) : Lib.trimPrefix t [32] = trimSp t := by
  unfold Lib.trimPrefix Lib.hasPrefix trimSp
  cases t with
  | nil => simp
  | cons a u =>
    by_cases h : a = 32
    · subst h; simp [List.isPrefixOf]
    · have : ¬ (32 : UInt8) = a := fun e => h e.symm
      simp [List.isPrefixOf, h, this]
theorem trimB {t : List UInt8} : Lib.trimPrefix t [40] = (if t.head? = some 40 then t.tail else t) ∧ Lib.hasPrefix t [40] = decide (t.head? = some 40) := by
  unfold Lib.trimPrefix Lib.hasPrefix
  cases t with
  | nil => simp
  | cons a u =>
    by_cases h : a = 40
    · subst h; simp [List.isPrefixOf]
    · have : ¬ (40 : UInt8) = a := fun e => h e.symm
      simp [List.isPrefixOf, h, this]

theorem fieldsGoD_len : ∀ (f : Nat) (cur l : List UInt8), (Lib.fieldsGoD f cur l).length ≤ cur.length + l.length ∧ ∀ x ∈ Lib.fieldsGoD f cur l, x.length ≤ cur.length + l.length
  | 0, cur, l => by
    rw [Lib.fieldsGoD]
    by_cases h : cur = []
    · simp [h]
    · have : 1 ≤ cur.length := List.length_pos_iff.2 h
      simp [h]; omega
  | f + 1, cur, l => by
    have hc : (if cur = [] then ([] : List (List UInt8)) else [cur]).length ≤ cur.length ∧ ∀ x ∈ (if cur = [] then ([] : List (List UInt8)) else [cur]), x.length ≤ cur.length := by
      by_cases h : cur = []
      · simp [h]
      · have : 1 ≤ cur.length := List.length_pos_iff.2 h
        simp [h]; omega
    rw [Lib.fieldsGoD]
    by_cases hl : l = []
    · rw [if_pos hl]
      exact ⟨by have := hc.1; omega, fun x hx => by have := hc.2 x hx; omega⟩
    rw [if_neg hl]
    by_cases hs : Lib.isSpaceR (Lib.decodeL l).1 = true
    · rw [if_pos hs]
      obtain ⟨a1, a2⟩ := fieldsGoD_len f [] (l.drop (Lib.decodeL l).2)
      simp only [List.length_nil, List.length_drop] at a1 a2
      refine ⟨by rw [List.length_append]; have := hc.1; omega, fun x hx => ?_⟩
      rcases List.mem_append.1 hx with h | h
      · have := hc.2 x h; omega
      · have := a2 x h; omega
    · rw [if_neg hs]
      obtain ⟨a1, a2⟩ := fieldsGoD_len f (cur ++ l.take (Lib.decodeL l).2) (l.drop (Lib.decodeL l).2)
      simp only [List.length_append, List.length_take, List.length_drop] at a1 a2
      exact ⟨by omega, fun x hx => by have := a2 x hx; omega⟩
theorem fieldsD_len (l : List UInt8) : (Lib.fieldsD l).length ≤ l.length ∧ ∀ x ∈ Lib.fieldsD l, x.length ≤ l.length := by
  have := fieldsGoD_len (l.length + 1) [] l
  simpa [Lib.fieldsD] using this
theorem KeepB.toBelow {eb B : Nat} {w W W' : World} (h : KeepB eb B W W') (hb : Below w.heap.size w W) (h1 : w.heap.size ≤ eb) (h2 : w.heap.size ≤ B) : Below w.heap.size w W' :=
  ⟨h.os.trans hb.os, h.tape.trans hb.tape, h.output.trans hb.output, Nat.le_trans hb.size h.size, fun j hj => (h.block j (by omega) (Nat.lt_of_lt_of_le hj hb.size) (by omega)).trans (hb.block j hj)⟩
/-- words behind the kids, under way -/
structure RdO (w6 wr : World) (B eb : Nat) (k : Int) (kv : Value) (ws : List (List UInt8)) (j : Nat) (n' : Int) (ts : List T) (tv : Value) : Prop where
  box : Boxes.At wr eb [.int .i64 k, .int .i64 n', .string ⟨#[]⟩, kv, tv]
  tiers : TO wr B tv ts
  owns : OwnsOf (ws.take j) 0 [] n' ts
  keep : KeepB eb B w6 wr

theorem RdK.fin {w wo w6 wr : World} {n eb kb nk : Nat} {k : Int} {r1 r : List UInt8} {xs : List X} {ws : List (List UInt8)} {n' : Int} {ts : List T} {tv : Value} (hI : RdK w wo n w.heap.size eb kb nk k r1 nk xs r) (h6 : Below wo.heap.size wo w6) (hO : RdO w6 wr w6.heap.size eb k (.slice (some ⟨kb, 0, none⟩) nk nk) ws ws.length n' ts tv) (hk : nk ≤ 3) (ht : ts.length ≤ 1000) (v0 v1 v2 v3 v4 : Value) :
    OX (((((wr.setCell ⟨w.heap.size, 0, none⟩ v0).setCell ⟨w.heap.size, 1, none⟩ v1).setCell ⟨w.heap.size, 2, none⟩ v2).setCell ⟨w.heap.size, 3, none⟩ v3).setCell ⟨w.heap.size, 4, none⟩ v4) (n + 1) w.heap.size (((((wr.setCell ⟨w.heap.size, 0, none⟩ v0).setCell ⟨w.heap.size, 1, none⟩ v1).setCell ⟨w.heap.size, 2, none⟩ v2).setCell ⟨w.heap.size, 3, none⟩ v3).setCell ⟨w.heap.size, 4, none⟩ v4).heap.size (.mk k n' ⟨#[]⟩ (xs.map (·.1)) ts, .slice (some ⟨kb, 0, none⟩) nk nk, tv) ∧
    Below w.heap.size w (((((wr.setCell ⟨w.heap.size, 0, none⟩ v0).setCell ⟨w.heap.size, 1, none⟩ v1).setCell ⟨w.heap.size, 2, none⟩ v2).setCell ⟨w.heap.size, 3, none⟩ v3).setCell ⟨w.heap.size, 4, none⟩ v4) := by
  obtain ⟨⟨l1, l2⟩, hrow, hch, heb, hrb, hkk, hv, hbl, b1, b2, b3, b4⟩ := hI
  obtain ⟨o1, o2, o3, o4⟩ := hO
  have z6 := h6.size
  have z4 := o4.size
  have hW : ∀ c, c ≠ w.heap.size → (((((wr.setCell ⟨w.heap.size, 0, none⟩ v0).setCell ⟨w.heap.size, 1, none⟩ v1).setCell ⟨w.heap.size, 2, none⟩ v2).setCell ⟨w.heap.size, 3, none⟩ v3).setCell ⟨w.heap.size, 4, none⟩ v4).heap[c]? = wr.heap[c]? := fun c hc => by
    have k : ∀ (V : World) (o : Nat) (u : Value), (V.setCell ⟨w.heap.size, o, none⟩ u).heap[c]? = V.heap[c]? := fun V o u => Below.heap_setCell V ⟨w.heap.size, o, none⟩ u c (by simpa using hc)
    rw [k, k, k, k, k]
  have hsz : (((((wr.setCell ⟨w.heap.size, 0, none⟩ v0).setCell ⟨w.heap.size, 1, none⟩ v1).setCell ⟨w.heap.size, 2, none⟩ v2).setCell ⟨w.heap.size, 3, none⟩ v3).setCell ⟨w.heap.size, 4, none⟩ v4).heap.size = wr.heap.size := by simp
  have hBB : Below w.heap.size w wr := o4.toBelow (below_trans hbl h6) (by omega) (by omega)
  have hfin := below_put5 hBB (b := w.heap.size) (Nat.le_refl _) v0 v1 v2 v3 v4
  generalize (((((wr.setCell ⟨w.heap.size, 0, none⟩ v0).setCell ⟨w.heap.size, 1, none⟩ v1).setCell ⟨w.heap.size, 2, none⟩ v2).setCell ⟨w.heap.size, 3, none⟩ v3).setCell ⟨w.heap.size, 4, none⟩ v4) = W at *
  have hall : ∀ c, kb ≤ c → c < wo.heap.size → W.heap[c]? = wo.heap[c]? := fun c c1 c2 => ((hW c (by omega)).trans (o4.block c (by omega) (by omega) (by omega))).trans (h6.block c c2)
  refine ⟨⟨⟨by show (⟨#[]⟩ : ByteArray).size ≤ maxLen; decide, by show ts.length ≤ maxLen; unfold maxLen; omega⟩, w6.heap.size, ?_, ?_⟩, hfin⟩
  · rw [Nat.sub_self, List.replicate_zero, List.append_nil] at hrow
    refine ⟨by omega, .inr ⟨kb, nk, xs, by simp [Ex.kids, l1], rfl, by simp [Ex.kids]; omega, by omega, by omega, hrow.kept (hall kb (Nat.le_refl _) b3), ?_⟩⟩
    have h1 := hch.imp (R' := OX W n) (lo := kb + 1) (hi := wo.heap.size) (fun s e y hs he hy => hy.kept (fun c c1 c2 => hall c (by omega) (by omega))) (Nat.le_refl _) (Nat.le_refl _)
    have h2 := h1.append (ys := []) (e := w6.heap.size) z6 (fun s s' e y hs hy => hy.mono hs (Nat.le_refl _))
    rw [List.append_nil] at h2
    exact h2
  · rw [hsz]
    exact (o2.ot z4).kept (fun c c1 c2 => hW c (by omega))

set_option maxRecDepth 20000 in
set_option maxHeartbeats 1600000 in
theorem read_step {n : Nat} (H : ReadC n) : ReadC (n + 1) := by
  intro t w hn hl he
  have hbl : (bytesOf t).size = t.length := bsize t
  have hd : (bytesOf t).data.toList = t := by simp [bytesOf]
  have hcp := Tryz.strings_CutPrefix (bytesOf t) ⟨#[40]⟩
  have e40 : (⟨#[40]⟩ : ByteArray).data.toList = [40] := rfl
  rw [hd, e40] at hcp
  obtain ⟨tb1, tb2⟩ := trimB (t := t)
  rw [tb1, tb2] at hcp
  have HCP := hide hcp
  clear hcp tb1 tb2
  by_cases hh : t.head? = some 40
  · obtain ⟨u, rfl⟩ : ∃ u, t = 40 :: u := by
      cases t with
      | nil => simp at hh
      | cons a u => simp at hh; exact ⟨u, by rw [hh]⟩
    have e1 : (if (40 :: u).head? = some 40 then (40 :: u).tail else 40 :: u) = u := by simp
    have e2 : decide ((40 :: u).head? = some (40 : UInt8)) = true := by simp
    have hC := unhide HCP
    rw [e1, e2] at hC
    have HC := hide hC
    clear hC e1 e2 HCP hh
    go_enter Tryz.func95, Tryz.ntmps95
    go_wp2_with (fail)
    have HE0 : Hid (EnvR (w.alloc (.cells #[.int .i64 0, .int .i64 0, .string ⟨#[]⟩, .slice none 0 0, .slice none 0 0] 77))) := hide (he.kept (below_alloc _ _))
    refine (unhide HC _).mono ?_
    rintro x w0 ⟨rfl, hw0⟩
    subst hw0
    have hdu : (bytesOf u).data.toList = u := by simp [bytesOf]
    have hbu : (bytesOf u).size = u.length := bsize u
    simp only [List.length_cons] at hn hl
    go_wp2_with (fail)
    refine (cutI (bytesOf u) _ (by omega)).mono ?_
    rintro x w1 ⟨wd, r1, rfl, hcut, hb1⟩
    rw [hdu] at hcut
    have hlen : u.length = wd.length + r1.length := by rw [hcut.1]; simp
    have HE1 := hide ((unhide HE0).kept hb1)
    obtain ⟨q1, hB, hz1⟩ := Boxes.box1 hb1
    have Q1 := hide q1
    have B1 := hide hB
    have HCUT := hide hcut
    clear hb1 hB q1 hcut
    go_wp2_with (fail)
    refine (namedI (bytesOf wd) w1).mono ?_
    rintro x w2 ⟨rfl, hb2⟩
    have HE2 := hide ((unhide HE1).kept hb2)
    have B2 := hide (below_trans (unhide B1) hb2)
    have Q2 := hide ((unhide Q1).below hb2 (by omega))
    have hz2 := hb2.size
    clear hb2 HE1 B1 Q1 HE0
    have hop := opK_range (bytesOf wd)
    generalize hk : opK (bytesOf wd) = k at *
    have HK := hide hk
    clear hk
    by_cases hk0 : k = 0
    · subst hk0
      have b0 : ((0 : Int) == 0) = true := rfl
      have hq := (unhide Q2).below (below_alloc w2 (.cells #[.int .i64 0, .int .i64 0, .string ⟨#[]⟩, .slice none 0 0, .slice none 0 0] 77)) (by omega)
      have Q3 := hide hq
      obtain ⟨c0, f0⟩ := hq 0 _ rfl
      obtain ⟨c1, f1⟩ := hq 1 _ rfl
      obtain ⟨c2, f2⟩ := hq 2 _ rfl
      obtain ⟨c3, f3⟩ := hq 3 _ rfl
      obtain ⟨c4, f4⟩ := hq 4 _ rfl
      clear hq
      go_wp2_with (fail)
      have hA5 := at_put5 (unhide Q3) (.int .i64 0) (.int .i64 0) (.string ⟨#[]⟩) (.slice none 0 0) (.slice none 0 0)
      obtain ⟨r0, _⟩ := hA5 0 _ rfl
      obtain ⟨r1', _⟩ := hA5 1 _ rfl
      obtain ⟨r2, _⟩ := hA5 2 _ rfl
      obtain ⟨r3, _⟩ := hA5 3 _ rfl
      obtain ⟨r4, _⟩ := hA5 4 _ rfl
      refine bodyPost_ret (v := .tuple #[.agg #[.int .i64 0, .int .i64 0, .string ⟨#[]⟩, .slice none 0 0, .slice none 0 0], .string (bytesOf r1)]) ?_ ?_ ?_
      · simp [results, Tryz.results95, go_sem, r0, r1', r2, r3, r4]
      · rfl
      have hBB : Below w.heap.size w _ := below_put5 (below_trans (unhide B2) (below_alloc w2 (.cells #[.int .i64 0, .int .i64 0, .string ⟨#[]⟩, .slice none 0 0, .slice none 0 0] 77))) (b := w.heap.size) (Nat.le_refl _) (.int .i64 0) (.int .i64 0) (.string ⟨#[]⟩) (.slice none 0 0) (.slice none 0 0)
      refine ⟨.mk 0 0 ⟨#[]⟩ [] [], _, _, r1, rfl, .inr ⟨u, rfl, wd, r1, unhide HCUT, .inl ⟨unhide HK, rfl, rfl⟩⟩, ⟨⟨by show (⟨#[]⟩ : ByteArray).size ≤ _; decide, by show 0 ≤ _; omega⟩, w.heap.size, OS.nil _ _ (Nat.le_refl _), OT.nil _ _ hBB.size⟩, hBB⟩
    · have b0 : (k == 0) = false := by simpa using hk0
      have h10 : 1 ≤ k ∧ k ≤ 10 := by omega
      have hkv := kindV_in h10
      have mm1 := mLook h10
      obtain ⟨nk, hnk⟩ : ∃ nk : Nat, kidsK k = nk := Int.eq_ofNat_of_zero_le (by have := kids_range (show 3 ≤ k ∧ k ≤ 10 by omega); omega)
      have hn3 := kids_range (show 3 ≤ k ∧ k ≤ 10 by omega)
      rw [hnk] at hn3
      have hmk := makeE nk (by omega)
      have fl : ∀ (w : World), (Instr.field 192 (.agg #[.string (wordK k), .int .i64 (nk : Int)]) 1).run Tryz.prog w = .ok (.int .i64 (nk : Int)) w := fun w => by kernel_rfl
      go_wp2_with (fail)
      refine (kindOf _ _).mono ?_
      rintro x w3 ⟨rfl, hw3⟩
      subst hw3
      rw [hkv]
      go_wp2_with (first | (go_at_call 262; refine (Kinds.look (wordK k) (kidsK k) _).mono ?_; rintro x w4 ⟨rfl, hb4⟩; obtain ⟨q4, B4', hz4⟩ := Boxes.box1 hb4; have HB4 := hide hb4; have Q4 := hide q4; have q5 := q4.below (below_alloc w4 (.cells (madeCells zero5 (nk * 5)) 77)) (by omega); have Q5 := hide q5; obtain ⟨c3, f3⟩ := q5 3 _ rfl; have B4 := hide (below_trans (unhide B2) B4'); clear hb4 q4 q5 B4') | fail)
      have hne : w4.heap.size ≠ w2.heap.size := by omega
      have HB5 : Hid (Below w2.heap.size w2 ((w4.alloc (.cells (madeCells zero5 (nk * 5)) 77)).setCell ⟨w2.heap.size, 3, none⟩ (.slice (some ⟨w4.heap.size, 0, none⟩) nk nk))) := hide (by
        have h1 := below_trans (below_trans (below_alloc w2 (.cells #[.int .i64 k, .int .i64 0, .string ⟨#[]⟩, .slice none 0 0, .slice none 0 0] 77)) (unhide HB4)) (below_alloc w4 (.cells (madeCells zero5 (nk * 5)) 77))
        exact h1.setCell (p := ⟨w2.heap.size, 3, none⟩) (Nat.le_refl _) _)
      have HR0 : Hid (RdK w ((w4.alloc (.cells (madeCells zero5 (nk * 5)) 77)).setCell ⟨w2.heap.size, 3, none⟩ (.slice (some ⟨w4.heap.size, 0, none⟩) nk nk)) n w.heap.size w2.heap.size w4.heap.size nk k r1 0 [] r1) := hide ⟨⟨rfl, by omega⟩, by
          have := (RowX.made w4 nk 77).kept (Below.heap_setCell (w4.alloc (.cells (madeCells zero5 (nk * 5)) 77)) ⟨w2.heap.size, 3, none⟩ (.slice (some ⟨w4.heap.size, 0, none⟩) nk nk) w4.heap.size (by simpa using hne))
          simpa using this, by show _ ≤ _; simp, (unhide Q5).set 3 _, (unhide Q2).below (unhide HB5) (by omega), rfl, (unhide HE2).kept (unhide HB5), below_trans (unhide B2) (unhide HB5), by omega, by omega, by simp, Nat.le_refl _⟩
      have HREC := hide H
      have HEW := hide he
      clear H he hmk fl mm1 hkv Q5 Q4 HB4 c3 f3 Q2 HB5 HE2 HC B2 B4 h10 b0
      generalize w2.heap.size = eb at *
      generalize w4.heap.size = kb at *
      go_loopw [7, 47] (fun t i wr => ∃ (j : Nat) (xs : List X) (r : List UInt8), j ≤ nk ∧ i = .int .i64 j ∧ t = .string (bytesOf r) ∧ Hid (RdK w wr n w.heap.size eb kb nk k r1 j xs r)) (fun _ i _ => nk - (intOf i).toNat)
      case atStart => exact ⟨0, [], r1, by omega, rfl, rfl, HR0⟩
      case round =>
        obtain ⟨j, xs, r, hj, rfl, rfl, hI⟩ := hrel
        have hrl := (unhide hI).rest (by omega)
        by_cases hlt : j < nk
        · obtain ⟨⟨l1, l2⟩, hrow, hch, heb, hrb, hkk, hv, hbl, b1, b2, b3, b4⟩ := unhide hI
          have htl := trim_len r
          have hTP := fun W => Tryz.strings_TrimPrefix (bytesOf r) ⟨#[32]⟩ W
          have e32 : (⟨#[32]⟩ : ByteArray).data.toList = [32] := rfl
          have hdr : (bytesOf r).data.toList = r := by simp [bytesOf]
          rw [hdr, e32, trimP] at hTP
          have HTP := hide hTP
          have HRC : Hid (∀ W : World, EnvR W → _) := hide (fun W hW => unhide HREC (trimSp r) W (by omega) (by omega) hW)
          have HEd : Hid (EnvR wr.drew) := hide (show EnvR wr.drew from hv.kept ⟨rfl, rfl, rfl, Nat.le_refl _, fun _ _ => rfl⟩)
          have g3 := (heb 3 _ rfl).1
          have G3 := hide g3
          have i1 : (j : Int) < (nk : Int) := by omega
          have i0 : (0 : Int) ≤ (j : Int) := by omega
          have HROW := hide hrow
          clear hTP hrow hch heb hrb hkk hv hbl e32
          have HF7 : Hid (∀ (W : World), wr.heap[kb]? = W.heap[kb]? → (∀ c u, (cells5 Z0)[c]? = some u → W.cell? ⟨kb, j * 5 + c, none⟩ = some u) ∧ ∀ c, W.frozen? ⟨kb, c, none⟩ = false) := hide (fun W hW => by
            have hr7 := (unhide HROW).kept hW.symm
            refine ⟨fun c u hu => hr7.1 j Z0 ?_ c u hu, hr7.2⟩
            rw [List.getElem?_append_right (by omega), l1, Nat.sub_self]
            cases hq : nk - j with
            | zero => omega
            | succ q => rfl)
          have ne1 : ¬ kb = eb := by omega
          have ne2 : ¬ eb = kb := by omega
          have hblr : w.heap.size ≤ wr.heap.size := by omega
          have hebr : eb < wr.heap.size := by omega
          clear HROW
          go_wp2_with (fail)
          go_region_held3 (fun w2 => w2.cell? ⟨eb, 3, none⟩ = some (.slice (some ⟨kb, 0, none⟩) nk nk)) (go_keep)
            (first | (go_at_call 120; refine (unhide HTP wr.drew).mono ?_; rintro x w6 ⟨rfl, hw6⟩; subst hw6) | (go_at_call 95; refine (unhide HRC wr.drew (unhide HEd)).mono ?_; rintro x w7 ⟨e, kv, tv, r', rfl, hre, hox, hb7⟩; have hB7 : Below wr.heap.size wr w7 := ⟨hb7.os, hb7.tape, hb7.output, hb7.size, hb7.block⟩; clear hb7; obtain ⟨xa, xc, hxf, _⟩ := hox.2.choose_spec.1.es.form; obtain ⟨ya, yc, hyf⟩ := hox.2.choose_spec.2.tl.form; simp only at hxf hyf; subst hxf hyf; have q3 := (hB7.cell (p := ⟨eb, 3, none⟩) hebr).trans g3; obtain ⟨hcc, hff⟩ := unhide HF7 w7 (hB7.block kb b3).symm; have k0 := hcc 0 _ rfl; have k1 := hcc 1 _ rfl; have k2 := hcc 2 _ rfl; have k3 := hcc 3 _ rfl; have k4 := hcc 4 _ rfl; have y0 := hff (j * 5); have y1 := hff (j * 5 + 1); have y2 := hff (j * 5 + 2); have y3 := hff (j * 5 + 3); have y4 := hff (j * 5 + 4); rw [Nat.add_zero] at k0))
          have HN : Hid (RdK w (put5W w7 kb j (e, .slice xa e.kids.length xc, .slice ya e.tiers.length yc)) n w.heap.size eb kb nk k r1 (j + 1) (xs ++ [(e, .slice xa e.kids.length xc, .slice ya e.tiers.length yc)]) r') := hide ((unhide hI).step hlt hB7 hox hre ((unhide HEW).kept (put5W_below (below_trans (unhide hI).below hB7) (by omega))))
          unfold put5W at HN
          clear hcc hff k0 k1 k2 k3 k4 y0 y1 y2 y3 y4 q3 hB7 hox hre HF7 hI
          go_wp2_with (fail)
          exact ⟨⟨j + 1, _, r', by omega, by go_num, rfl, HN⟩, by simp [intOf]; omega⟩
        · obtain rfl : j = nk := by omega
          have hrd := unhide hI
          have hlr : (bytesOf r).size = r.length := bsize r
          have hdr : (bytesOf r).data.toList = r := by simp [bytesOf]
          obtain ⟨mx, hmx⟩ := hrd.env.1.2.1
          have hcut := Tryz.strings_Cut (bytesOf r) ⟨#[41]⟩ mx wr (by omega) hmx
          have e41 : (⟨#[41]⟩ : ByteArray).data.toList = [41] := rfl
          rw [hdr, e41] at hcut
          have hlen2 := cut_len2 41 r
          have HCE : Hid (∃ c2, Lib.cut r [41] = ((Lib.cut r [41]).1, (Lib.cut r [41]).2.1, c2)) := hide ⟨_, rfl⟩
          generalize hC1 : (Lib.cut r [41]).1 = ow at *
          generalize hC2 : (Lib.cut r [41]).2.1 = r3 at *
          generalize (Lib.cut r [41]).2.2 = fnd at *
          have HC1 := hide hC1
          have HC2 := hide hC2
          have HCUT2 := hide hcut
          clear hcut hmx e41 hC1 hC2 hrd
          go_wp2_with (fail)
          refine (unhide HCUT2).mono ?_
          rintro x w5 ⟨rfl, nd, hw5⟩
          have B5 : Hid (Below wr.heap.size wr w5) := hide (by rw [hw5]; exact Text.below_drew nd)
          clear hw5 HCUT2
          have HE5 := hide ((unhide hI).env.kept (unhide B5))
          have hlo : (⟨ow.toArray⟩ : ByteArray).size = ow.length := by simp [ByteArray.size]
          go_wp2_with (fail)
          refine (Tryz.strings_Fields_any ⟨ow.toArray⟩ w5 (by omega) (unhide HE5).2.1 (unhide HE5).2.2).mono ?_
          rintro x w6 ⟨A, rfl, hA, hown, hb6⟩
          have eow : (⟨ow.toArray⟩ : ByteArray).data.toList = ow := rfl
          rw [eow] at hown ⊢
          obtain ⟨fl1, fl2⟩ := fieldsD_len ow
          have HWS : Hid (Low ow → Lib.fieldsD ow = Lib.fields ow) := hide (fun h => Lib.fieldsD_ascii ow h)
          generalize hws : Lib.fieldsD ow = ws at *
          have HFL := hide fl2
          have HOWN := hide hown
          have B6 := hide (below_trans (unhide B5) hb6)
          have hz6 := (unhide B6).size
          have hzA := (World.ownsRow.lt hown A rfl).2
          have hz5 := (unhide B5).size
          have hbk := (unhide hI).blocks
          have heb6 := (unhide hI).ebox.below (unhide B6) (by omega)
          have HO0 : Hid (RdO w6 w6 w6.heap.size eb k (.slice (some ⟨kb, 0, none⟩) j j) ws 0 0 [] (.slice none 0 0)) := hide ⟨heb6, TO.nil _ _, ⟨rfl, rfl⟩, KeepB.refl _ _ _⟩
          clear hown hb6 heb6 fl2 hws eow
          go_wp2_with (fail)
          have hwl6 : ws.length ≤ 1000 := by omega
          have hebB : eb < w6.heap.size := by omega
          have hAe : A ≠ eb := by omega
          have HENV : Hid (∀ W, KeepB eb w6.heap.size w6 W → Below w.heap.size w W) := hide (fun W hW => hW.toBelow (below_trans (unhide hI).below (unhide B6)) (by omega) (by omega))
          go_loopw [70] (fun i wr2 => ∃ (q : Nat) (n' : Int) (ts : List T) (tv : Value), q ≤ ws.length ∧ i = .int .i64 q ∧ ts.length ≤ q ∧ Hid (RdO w6 wr2 w6.heap.size eb k (.slice (some ⟨kb, 0, none⟩) j j) ws q n' ts tv)) (fun i _ => ws.length - (intOf i).toNat)
          case atStart => exact ⟨0, 0, [], .slice none 0 0, by omega, rfl, by simp, HO0⟩
          case round =>
            obtain ⟨q, n', ts, tv, hq, rfl, htq, hO⟩ := hrel
            by_cases hlt2 : q < ws.length
            · have hx : ws[q]? = some ws[q] := List.getElem?_eq_getElem hlt2
              have hxl := unhide HFL ws[q] (List.getElem_mem _)
              have hcell := World.ownsRow.cells (unhide HOWN) rfl q (.string ⟨ws[q].toArray⟩) (by rw [List.getElem?_map, hx]; rfl)
              rw [Addr.add_lit, Nat.zero_add] at hcell
              have hA2 := (World.cell?_of_block (w := w6) (a := ⟨A, q, none⟩) ((unhide hO).keep.block A (by omega) (by omega) hAe)).trans hcell
              have HTK : Hid (ws.take (q + 1) = ws.take q ++ [ws[q]]) := hide (by rw [List.take_add_one, hx]; rfl)
              have HRUN := hide (ownWI eb w6.heap.size ws[q] k n' ⟨#[]⟩ (.slice (some ⟨kb, 0, none⟩) j j) tv ts wr (by omega) ((unhide HEW).kept (unhide HENV _ (unhide hO).keep)).1 (unhide hO).box (unhide hO).tiers (by omega) hebB (unhide hO).keep.size)
              have i1 : (q : Int) < (ws.length : Int) := by omega
              have i0 : (0 : Int) ≤ (q : Int) := by omega
              clear hcell
              generalize ws[q] = wq at *
              go_wp2_with (fail)
              refine (unhide HRUN).mono ?_
              rintro x w8 ⟨rfl, n2, tv2, ts2, ho, hbx2, hto2, hkp2⟩
              have hts2 : ts2.length ≤ ts.length + 1 := by
                rcases ho with ⟨_, _, rfl⟩ | ⟨_, _, a, b, _, _, rfl⟩
                · omega
                · simp
              have HO2 : Hid (RdO w6 w8 w6.heap.size eb k (.slice (some ⟨kb, 0, none⟩) j j) ws (q + 1) n2 ts2 tv2) := hide ⟨hbx2, hto2, by rw [unhide HTK]; exact (unhide hO).owns.snoc ho, (unhide hO).keep.trans hkp2⟩
              clear ho hbx2 hto2 hkp2 HRUN hA2 hO
              go_wp2_with (fail)
              exact ⟨⟨q + 1, n2, ts2, tv2, by omega, by go_num, by omega, HO2⟩, by simp [intOf]; omega⟩
            · obtain rfl : q = ws.length := by omega
              obtain ⟨ta, tc, htf⟩ := (unhide hO).tiers.form
              subst htf
              have hbx := (unhide hO).box
              obtain ⟨x0, _⟩ := hbx 0 _ rfl
              obtain ⟨x1, _⟩ := hbx 1 _ rfl
              obtain ⟨x2, _⟩ := hbx 2 _ rfl
              obtain ⟨x3, _⟩ := hbx 3 _ rfl
              obtain ⟨x4, _⟩ := hbx 4 _ rfl
              have hrb := ((unhide hI).rbox.below (unhide B6) (by omega)).kept ((unhide hO).keep.block w.heap.size (by omega) (by omega) (by omega))
              have RB := hide hrb
              obtain ⟨c0, f0⟩ := hrb 0 _ rfl
              obtain ⟨c1, f1⟩ := hrb 1 _ rfl
              obtain ⟨c2, f2⟩ := hrb 2 _ rfl
              obtain ⟨c3, f3⟩ := hrb 3 _ rfl
              obtain ⟨c4, f4⟩ := hrb 4 _ rfl
              have HFIN := hide (RdK.fin (unhide hI) (unhide B6) (unhide hO) (by omega) (by omega) (.int .i64 k) (.int .i64 n') (.string ⟨#[]⟩) (.slice (some ⟨kb, 0, none⟩) j j) (.slice ta ts.length tc))
              have HRD : Hid (ReadsI (n + 1) (40 :: u) (.mk k n' ⟨#[]⟩ (xs.map (·.1)) ts) r3) := hide (.inr ⟨u, rfl, wd, r1, unhide HCUT, .inr ⟨by rw [unhide HK]; exact hk0, xs.map (·.1), r, ws, n', ts, by rw [unhide HK, hnk]; simp [(unhide hI).len.1], (unhide hI).kids, (unhide HC2).symm, by rw [unhide HC1]; exact unhide HWS, by rw [unhide HC1]; exact fl1, by have := (unhide hO).owns; rwa [List.take_length] at this, by rw [unhide HK]; rfl⟩⟩)
              clear hbx hrb hO hI
              go_wp2_with (fail)
              have hA5 := at_put5 (unhide RB) (.int .i64 k) (.int .i64 n') (.string ⟨#[]⟩) (.slice (some ⟨kb, 0, none⟩) j j) (.slice ta ts.length tc)
              obtain ⟨s0, _⟩ := hA5 0 _ rfl
              obtain ⟨s1, _⟩ := hA5 1 _ rfl
              obtain ⟨s2, _⟩ := hA5 2 _ rfl
              obtain ⟨s3, _⟩ := hA5 3 _ rfl
              obtain ⟨s4, _⟩ := hA5 4 _ rfl
              exact bodyPost_ret (v := .tuple #[.agg #[.int .i64 k, .int .i64 n', .string ⟨#[]⟩, .slice (some ⟨kb, 0, none⟩) j j, .slice ta ts.length tc], .string (bytesOf r3)]) (by simp [results, Tryz.results95, go_sem, s0, s1, s2, s3, s4, bytesOf]) rfl ⟨_, _, _, r3, rfl, unhide HRD, (unhide HFIN).1, (unhide HFIN).2⟩
  · have e1 : (if t.head? = some 40 then t.tail else t) = t := by simp [hh]
    have e2 : decide (t.head? = some (40 : UInt8)) = false := by simp [hh]
    have hC := unhide HCP
    rw [e1, e2] at hC
    have HC := hide hC
    clear hC e1 e2 HCP
    go_enter Tryz.func95, Tryz.ntmps95
    go_wp2_with (fail)
    have HE0 : Hid (EnvR (w.alloc (.cells #[.int .i64 0, .int .i64 0, .string ⟨#[]⟩, .slice none 0 0, .slice none 0 0] 77))) := hide (he.kept (below_alloc _ _))
    refine (unhide HC _).mono ?_
    rintro x w0 ⟨rfl, hw0⟩
    subst hw0
    go_wp2_with (fail)
    refine (cutI (bytesOf t) _ (by omega)).mono ?_
    rintro x w1 ⟨wd, r, rfl, hcut, hb1⟩
    rw [hd] at hcut
    have hlen : t.length = wd.length + r.length := by rw [hcut.1]; simp
    have HE1 := hide ((unhide HE0).kept hb1)
    obtain ⟨q1, hB, hz1⟩ := Boxes.box1 hb1
    have Q1 := hide q1
    have B1 := hide hB
    have HCUT := hide hcut
    clear hb1 hB q1 hcut
    go_wp2_with (fail)
    refine (leafI wd w1 (by omega) (unhide HE1).1).mono ?_
    rintro x w2 ⟨e, rfl, hleaf, ⟨z1, z2, z3⟩, hb2⟩
    have hq := (unhide Q1).below hb2 (by omega)
    have Q2 := hide hq
    have B2 := hide (below_trans (unhide B1) hb2)
    obtain ⟨c0, f0⟩ := hq 0 _ rfl
    obtain ⟨c1, f1⟩ := hq 1 _ rfl
    obtain ⟨c2, f2⟩ := hq 2 _ rfl
    obtain ⟨c3, f3⟩ := hq 3 _ rfl
    obtain ⟨c4, f4⟩ := hq 4 _ rfl
    clear hb2 hq
    have HF : Hid (ReadsI (n + 1) t e r ∧ ∀ W : World, w.heap.size ≤ W.heap.size → OX W (n + 1) w.heap.size W.heap.size (e, .slice none 0 0, .slice none 0 0)) := hide ⟨.inl ⟨hh, wd, unhide HCUT, hleaf⟩, fun W hW => ⟨⟨by show e.meter.size ≤ _; unfold maxLen; omega, by show e.tiers.length ≤ _; rw [z2]; simp⟩, w.heap.size, by show OS _ _ _ _ _ e.kids; rw [z1]; exact OS.nil _ _ (Nat.le_refl _), by show OT _ _ _ _ e.tiers; rw [z2]; exact OT.nil _ _ hW⟩⟩
    clear z1 z2 z3 hleaf
    obtain ⟨ek, en, em, ks0, ts0⟩ := e
    simp only [leafV, Ex.kind, Ex.num, Ex.meter]
    go_wp2_with (fail)
    have hA5 := at_put5 (unhide Q2) (.int .i64 ek) (.int .i64 en) (.string em) (.slice none 0 0) (.slice none 0 0)
    obtain ⟨r0, _⟩ := hA5 0 _ rfl
    obtain ⟨r1, _⟩ := hA5 1 _ rfl
    obtain ⟨r2, _⟩ := hA5 2 _ rfl
    obtain ⟨r3, _⟩ := hA5 3 _ rfl
    obtain ⟨r4, _⟩ := hA5 4 _ rfl
    exact bodyPost_ret (v := .tuple #[.agg #[.int .i64 ek, .int .i64 en, .string em, .slice none 0 0, .slice none 0 0], .string (bytesOf r)]) (by simp [results, Tryz.results95, go_sem, r0, r1, r2, r3, r4]) rfl ⟨_, _, _, r, rfl, (unhide HF).1, (unhide HF).2 _ (by have := (unhide B2).size; simpa using this), below_put5 (unhide B2) (Nat.le_refl _) _ _ _ _ _⟩
theorem read_all : ∀ n, ReadC n
  | 0 => fun t w h => by omega
  | n + 1 => read_step (read_all n)
end Go.Proofs.YtnchgeiinkaefaaGreatDoor.Rule
end

section
/-
  impl.writeExpr, impl.RuleText.
-/
namespace Go.Proofs.YtnchgeiinkaefaaGreatDoor.Rule
set_option linter.unusedVariables false
open Go.RowKit RegIn
open Tiers (T T0 TR hide unhide below_trans)
open Kinds hiding hide unhide below_trans ext_toList
open _root_.Go.Proofs.YtnchgeiinkaefaaGreatDoor.Text (Tens itoaI)

def WrIC (d : Nat) : Prop := ∀ (lo hi : Nat) (v : Value) (e : Ex) (w : World), EV lo hi w d v e → hi ≤ w.heap.size → allB e = true → cnt e ≤ 1000 → Tens w →
  Calls Tryz.prog 124 #[v] w fun x w' => x = .returned (.string (bytesOf (wr e))) ∧ Below w.heap.size w w'

abbrev sV (x : List UInt8) : Value := .string (bytesOf x)
/-- a row of words of the call's own -/
def SO (W : World) (B : Nat) (v : Value) (ws : List (List UInt8)) : Prop := W.ownsRow B 9 1 v ws.length (ws.map sV)

theorem infoS' : ∃ i, Tryz.prog.info? 9 = some i ∧ i.zero = some (.string ByteArray.empty) ∧ i.size = 1 ∧ i.bytes = 16 := by
  obtain ⟨i, hi, h2⟩ := Option.map_eq_some_iff.1 infoS
  simp only [Prod.mk.injEq] at h2
  exact ⟨i, hi, h2.1, h2.2.1, h2.2.2⟩
theorem SO.nil (W : World) (B : Nat) : SO W B (.slice none 0 0) [] := ⟨by simp, .inl ⟨rfl, rfl⟩⟩
theorem SO.blk {W : World} {B : Nat} {v : Value} {ws : List (List UInt8)} (h : SO W B v ws) : ∀ q, v.ownBlock = some q → B ≤ q ∧ q < W.heap.size := World.ownsRow.lt h
theorem SO.kept {W W' : World} {B : Nat} {v : Value} {ws : List (List UInt8)} (h : SO W B v ws) (hb : Below W.heap.size W W') : SO W' B v ws :=
  World.ownsRow.kept (row := none) h ⟨hb.os, hb.tape, hb.output, hb.size, fun j hj _ => hb.block j hj⟩ (by
    cases h1 : v.ownBlock with
    | none => exact .inl rfl
    | some q => exact .inr (by simp))
theorem SO.form {W : World} {B : Nat} {v : Value} {ws : List (List UInt8)} (h : SO W B v ws) : ∃ a c, v = .slice a ws.length c := by
  obtain ⟨h1, h2⟩ := h
  rcases h2 with ⟨rfl, h0⟩ | ⟨g, cap, cur, rfl, _⟩
  · exact ⟨none, 0, by rw [h0]⟩
  · exact ⟨_, _, rfl⟩
theorem below_grown {B : Nat} {a b c : World} {r : Option Nat} (h : Below B a b) (hg : b.grownBy c r) (hB : B ≤ a.heap.size) (hr : ∀ q, r = some q → B ≤ q) : Below B a c :=
  h.grown hg (Nat.le_trans hB h.size) hr

theorem newOne (w : World) (X : List UInt8) (t : TypeId) : ∀ j y, [X][j]? = some y → (w.alloc (.cells #[.string (bytesOf X)] t)).cell? ⟨w.heap.size, j, none⟩ = some (sV y)
  | 0, y, hy => by
    obtain rfl : X = y := by simpa using hy
    have e1 := (MapKept.heap_alloc w (.cells #[.string (bytesOf X)] t)).1
    simp only [World.cell?]
    rw [e1]; rfl
section
variable {ops : Array Oper} {o : Oper} {a : Act} {Q : Exit → Act → World → Prop}
theorem listAppS (w : World) {rest : List Oper} (hgd : o.guard = none) (s x : Operand) (ho : o.op = .call { callee := .builtin .append, args := #[s, x], argTypes := #[158, 158] })
    (B N c n k : Nat) (v : Value) (ws new : List (List UInt8)) (hn : new.length = n) (hk : ws.length = k) (hs : a.eval s = v) (hv : SO w B v ws) (hx : a.eval x = .slice (some ⟨N, 0, none⟩) n c) (hN : ∀ j y, new[j]? = some y → w.cell? ⟨N, j, none⟩ = some (sV y)) (hne : new ≠ []) (hl : ws.length + new.length ≤ 1000) (hB : B ≤ w.heap.size)
    (h : ∀ g cap w', SO w' B (.slice (some ⟨g, 0, none⟩) (k + n) cap) (ws ++ new) → w.grownBy w' v.ownBlock → g < w'.heap.size → wpList Tryz.prog ops Q rest (a.put o.dst (.slice (some ⟨g, 0, none⟩) (k + n) cap)) w') :
    wpList Tryz.prog ops Q (o :: rest) a w := by
  subst hn hk
  obtain ⟨i, hi, hz, hsz, hby⟩ := infoS'
  refine wpList_append_lies (P := Tryz.prog) w hgd s x 158 ho B 9 i _ 1 16 Tryz.underlying158 hi hz hsz hby rfl (by omega) v ws.length (ws.map sV) hs hv ⟨N, 0, none⟩ new.length c (new.map sV) hx (by simp) ?_ ?_ (List.length_pos_iff.2 hne) (by unfold maxLen; omega) (by omega) hB _ rfl ?_
  · intro j u hu
    rw [List.getElem?_map] at hu
    obtain ⟨y, hy, rfl⟩ := Option.map_eq_some_iff.1 hu
    rw [Addr.add_lit, Nat.zero_add]
    exact hN j y hy
  · intro u hu
    obtain ⟨y, _, rfl⟩ := List.mem_map.1 hu
    rfl
  · intro g cap w' h1 h2 h3 h4
    refine h g cap w' ?_ h2 h4
    unfold SO
    rw [List.map_append, List.length_append]
    exact h1
theorem listAppNo (w : World) {rest : List Oper} (hgd : o.guard = none) (s x : Operand) (ho : o.op = .call { callee := .builtin .append, args := #[s, x], argTypes := #[158, 158] })
    (B : Nat) (v : Value) (ws : List (List UInt8)) (hs : a.eval s = v) (hv : SO w B v ws) (hx : a.eval x = .slice none 0 0)
    (h : wpList Tryz.prog ops Q rest (a.put o.dst v) w) :
    wpList Tryz.prog ops Q (o :: rest) a w := by
  obtain ⟨i, hi, hz, hsz, hby⟩ := infoS'
  exact wpList_append_own_none (P := Tryz.prog) hgd s x 158 ho B 9 i 1 Tryz.underlying158 hi v ws.length (ws.map sV) hs hv hx h
theorem listAppAny (w : World) {rest : List Oper} (hgd : o.guard = none) (s x : Operand) (ho : o.op = .call { callee := .builtin .append, args := #[s, x], argTypes := #[158, 158] })
    (B B' : Nat) (v vo : Value) (ws new : List (List UInt8)) (hs : a.eval s = v) (hv : SO w B v ws) (hx : a.eval x = vo) (hR : SR w B' vo new) (hne : ws ++ new ≠ []) (hl : ws.length + new.length ≤ 1000) (hB : B ≤ w.heap.size)
    (h : ∀ g cap w', SO w' B (.slice (some ⟨g, 0, none⟩) (ws ++ new).length cap) (ws ++ new) → w.grownBy w' v.ownBlock → g < w'.heap.size → wpList Tryz.prog ops Q rest (a.put o.dst (.slice (some ⟨g, 0, none⟩) (ws ++ new).length cap)) w') :
    wpList Tryz.prog ops Q (o :: rest) a w := by
  rcases hR with ⟨rfl, rfl⟩ | ⟨hn, b, cap, rfl, hc, h1, h2, h3⟩
  · refine listAppNo w hgd s x ho B v ws hs hv hx ?_
    have hv' := hv
    have hb := hv.blk
    obtain ⟨e1, e2⟩ := hv
    rw [List.append_nil] at *
    rcases e2 with ⟨rfl, h0⟩ | ⟨g, cap, cur, rfl, _⟩
    · exact absurd (List.length_eq_zero_iff.1 h0) hne
    · exact h g cap w hv' (World.grownBy.refl _ _) (hb g rfl).2
  · refine listAppS w hgd s x ho B b cap new.length ws.length v ws new rfl rfl hs hv hx h3 hn hl hB ?_
    rw [List.length_append] at h
    exact h
end
theorem SO.cells {W : World} {B g n cap : Nat} {ws : List (List UInt8)} (h : SO W B (.slice (some ⟨g, 0, none⟩) n cap) ws) : ∀ j x, ws[j]? = some x → W.cell? ⟨g, j, none⟩ = some (sV x) := fun j x hx => by
  have := World.ownsRow.cells h rfl j (sV x) (by rw [List.getElem?_map, hx]; rfl)
  rw [Addr.add_lit, Nat.zero_add] at this
  exact this
theorem SO.cap {W : World} {B g n cap : Nat} {ws : List (List UInt8)} (h : SO W B (.slice (some ⟨g, 0, none⟩) n cap) ws) : ws.length ≤ cap := by
  obtain ⟨h1, h2⟩ := h
  rcases h2 with ⟨h3, _⟩ | ⟨g', cap', cur, h3, hB, hb, h4⟩
  · cases h3
  · simp only [Value.slice.injEq] at h3
    obtain ⟨_, _, rfl⟩ := h3
    exact h4.1

theorem bytes_map (l : List (List UInt8)) : (l.map bytesOf).map (·.data.toList) = l := by
  rw [List.map_map]
  have : ((fun x : ByteArray => x.data.toList) ∘ bytesOf) = id := by funext x; simp [bytesOf]
  rw [this, List.map_id]
theorem own_len {k n : Int} {m : ByteArray} {nk : Nat} {ts : List (Int × Int)} (h : nodeB k n m nk ts = true) : (ownW k n m ts).length ≤ 6 := by
  unfold ownW
  split
  · simp
  split
  · simp
  split
  · rename_i h1 h2 h3
    have := (tier_ok ((node_more h (by omega) (by omega)).2.2.2.2.2.2.2.1 h3)).1
    simpa using this
  · simp
/-- the words of a node, joined -/
theorem join_node {k n : Int} {m : ByteArray} {ks : List Ex} {ts : List (Int × Int)} (h : nodeB k n m ks.length ts = true) :
    ks.map wr ++ ownW k n m ts ≠ [] ∧ (wordK k = ByteArray.empty → Lib.join (ks.map wr ++ ownW k n m ts) [32] = wr (.mk k n m ks ts)) ∧ (wordK k ≠ ByteArray.empty → wr (.mk k n m ks ts) = 40 :: (wordL k ++ 32 :: (Lib.join (ks.map wr ++ ownW k n m ts) [32] ++ [41]))) ∧ (Lib.join (ks.map wr ++ ownW k n m ts) [32]).length ≤ (wr (.mk k n m ks ts)).length := by
  rw [wr]
  by_cases k1 : k = 1
  · subst k1
    obtain ⟨a1, _, _, _⟩ := node_num h
    obtain rfl := List.length_eq_zero_iff.1 a1
    have e : Lib.join (([] : List Ex).map wr ++ ownW 1 n m ts) [32] = Lib.itoa n := by simp [ownW, Lib.join_one]
    rw [e, if_pos rfl]
    exact ⟨by simp [ownW], fun _ => rfl, fun h => absurd (by decide) h, Nat.le_refl _⟩
  by_cases k2 : k = 2
  · subst k2
    obtain ⟨a1, _, _, _⟩ := node_name h
    obtain rfl := List.length_eq_zero_iff.1 a1
    have e : Lib.join (([] : List Ex).map wr ++ ownW 2 n m ts) [32] = m.data.toList := by simp [ownW, Lib.join_one]
    rw [e, if_neg (by omega), if_pos rfl]
    exact ⟨by simp [ownW], fun _ => rfl, fun h => absurd (by decide) h, Nat.le_refl _⟩
  obtain ⟨h3, a1, a2, a3, a4, a5, a6, a7, a8⟩ := node_more h k1 k2
  have hks : ks ≠ [] := fun e => by rw [e] at a2; simp at a2
  have hj := wordsW_eq (k := k) (n := n) (m := m) (ks := ks) (ts := ts) h3.1 a8 hks
  rw [if_neg k1, if_neg k2]
  have e : 40 :: (wordL k ++ (wrS ks ++ (wrO k n ts ++ [41]))) = 40 :: (wordL k ++ 32 :: (Lib.join (ks.map wr ++ ownW k n m ts) [32] ++ [41])) := by
    rw [← List.append_assoc (wrS ks), ← hj]; simp
  refine ⟨by simp [hks], fun h => ?_, fun _ => e, by rw [e]; simp; omega⟩
  exfalso
  have : k = 3 ∨ k = 4 ∨ k = 5 ∨ k = 6 ∨ k = 7 ∨ k = 8 ∨ k = 9 ∨ k = 10 := by omega
  rcases this with rfl | rfl | rfl | rfl | rfl | rfl | rfl | rfl
  all_goals exact absurd (congrArg ByteArray.size h) (by decide)

set_option maxRecDepth 20000 in
set_option maxHeartbeats 1600000 in
theorem wrI_step {d : Nat} (H : ∀ d', d = d' + 1 → WrIC d') : WrIC d := by
  rintro lo hi v e w ⟨kv, tv, rfl, hz, hk, ht⟩ hhi ha hc hT
  obtain ⟨ka, kc, rfl, hkl⟩ := hk.form
  obtain ⟨ta, tc, rfl⟩ := ht.form
  have hl := wr_len e ha
  have hcn := cnt_eq e
  obtain ⟨k, n, m, ks, ts⟩ := e
  rw [allB, Bool.and_eq_true] at ha
  obtain ⟨hn, hks⟩ := ha
  simp only [Ex.kind, Ex.num, Ex.meter, Ex.kids, Ex.tiers] at *
  have h10 : 1 ≤ k ∧ k ≤ 10 := by
    unfold nodeB at hn
    simp only [Bool.and_eq_true, decide_eq_true_eq] at hn
    omega
  have hk3 : ks.length ≤ 3 := by
    unfold nodeB at hn
    simp only [Bool.and_eq_true, decide_eq_true_eq] at hn
    have h3 : kidsK k ≤ 3 := by unfold kidsK; repeat' split
                                all_goals omega
    omega
  have n5 := new5 w (.int .i64 k) (.int .i64 n) (.string m) (.slice ka ks.length kc) (.slice ta ts.length tc) 77
  obtain ⟨W0, hW0⟩ : ∃ W0, w.alloc (.cells #[.int .i64 k, .int .i64 n, .string m, .slice ka ks.length kc, .slice ta ts.length tc] 77) = W0 := ⟨_, rfl⟩
  have B0 : Hid (Below w.heap.size w W0) := hide (by rw [← hW0]; exact below_alloc _ _)
  have hs0 : W0.heap.size = w.heap.size + 1 := by rw [← hW0]; simp
  rw [hW0] at n5
  have N5 := hide n5
  have HW0 := hide hW0
  have hkv := kindV_in h10
  obtain ⟨c0, c1, c2, c3, c4⟩ := n5
  clear hW0
  go_enter Tryz.func124, Tryz.ntmps124
  go_wp2_with (fail)
  rw [unhide HW0]
  refine (kindOf _ _).mono ?_
  rintro x w1 ⟨rfl, hw1⟩
  obtain rfl : W0 = w1 := hw1.symm
  rw [hkv]
  go_wp2_with (fail)
  have HKS := hide hk
  have HTT : Hid (Tens W0) := hide (hT.kept (unhide B0))
  have HH := hide H
  have HAL := hide hks
  have HEV := hide ht
  clear hk ht H hT hks c0 c1 c2 c3 c4
  go_loopw [4, 15] (fun t i wr => ∃ (j : Nat) (v : Value), j ≤ ks.length ∧ i = .int .i64 j ∧ t = v ∧ Hid (SO wr (w.heap.size + 1) v ((ks.take j).map Rule.wr)) ∧ Hid (Below W0.heap.size W0 wr)) (fun _ i _ => ks.length - (intOf i).toNat)
  case atStart => exact ⟨0, _, by omega, rfl, rfl, hide (SO.nil _ _), hide (Below.refl _ _)⟩
  case round =>
    obtain ⟨j, v, hj, rfl, hvt, hso, hb⟩ := hrel
    have hzr := (unhide hb).size
    have hsl : ((ks.take j).map Rule.wr).length = j := by simp; omega
    obtain ⟨va, vc, hvf⟩ := (unhide hso).form
    rw [hsl] at hvf
    subst hvf hvt
    by_cases hlt : j < ks.length
    · obtain ⟨d', b, o, cap, kv', tv', rfl, hv, hbb, ⟨c0', c1', c2', c3', c4'⟩, hev⟩ := ((unhide HKS).kept (same_below (below_trans (unhide B0) (unhide hb)) hhi)).at hlt
      simp only [Value.slice.injEq, true_and] at hv
      obtain ⟨rfl, rfl⟩ := hv
      obtain ⟨xa, xc, ya, yc, hform⟩ := hev.form
      obtain ⟨e4, e5⟩ : kv' = .slice xa (ks.getD j E0).kids.length xc ∧ tv' = .slice ya (ks.getD j E0).tiers.length yc := by simpa [exV] using hform
      subst e4 e5
      clear hform
      have HEV2 : Hid (∀ ob, EV lo hi (wr.alloc ob) d' (.agg #[.int .i64 (ks.getD j E0).kind, .int .i64 (ks.getD j E0).num, .string (ks.getD j E0).meter, .slice xa (ks.getD j E0).kids.length xc, .slice ya (ks.getD j E0).tiers.length yc]) (ks.getD j E0)) := hide (fun ob => hev.kept (same_below (below_alloc _ _) (by omega)))
      have HKID := hide (unhide HH d' rfl)
      have HA := hide (allL_at (unhide HAL) hlt)
      have hcj := cntL_at hlt
      have i1 : (j : Int) < (ks.length : Int) := by omega
      have HTK : Hid (∀ x, Rule.wr (ks.getD j E0) = x → (ks.take (j + 1)).map Rule.wr = (ks.take j).map Rule.wr ++ [x]) := hide (fun x hx => by rw [take_at hlt, List.map_append, ← hx]; rfl)
      have HT5 : Hid (∀ ob, Tens (wr.alloc ob)) := hide (fun ob => ((unhide HTT).kept (unhide hb)).kept (below_alloc _ _))
      clear hev
      generalize ks.getD j E0 = ex at *
      obtain ⟨xk, xn, xm, xks, xts⟩ := ex
      simp only [Ex.kind, Ex.num, Ex.meter, Ex.kids, Ex.tiers] at c0' c1' c2' c3' c4' HEV2
      go_wp2_with (fail)
      refine (unhide HKID lo hi _ _ _ (unhide HEV2 _) (by simp; omega) (unhide HA) (by omega) (unhide HT5 _)).mono ?_
      rintro x w2 ⟨rfl, hb2⟩
      have HB2 := hide (below_trans (below_trans (unhide hb) (below_alloc _ _)) hb2)
      have HS2 := hide ((unhide hso).kept (below_trans (below_alloc _ _) hb2))
      clear hb2 hso c0' c1' c2' c3' c4' HEV2 HT5
      generalize hX : Rule.wr (.mk xk xn xm xks xts) = X at *
      have HTX := hide (unhide HTK X rfl)
      clear HTK hX
      generalize (ks.take j).map Rule.wr = ws at *
      have hz2 := (unhide HB2).size
      have HN1 := hide (newOne w2 X 9)
      have HS3 := hide ((unhide HS2).kept (below_alloc w2 (.cells #[.string (bytesOf X)] 9)))
      have HG : Hid (∀ w', (w2.alloc (.cells #[.string (bytesOf X)] 9)).grownBy w' (Value.slice va j vc).ownBlock → Below W0.heap.size W0 w') := hide (fun w' h2 => below_grown (below_trans (unhide HB2) (below_alloc _ _)) h2 (Nat.le_refl _) (fun q hq => by have := (unhide HS3).blk q hq; omega))
      go_wp2_with (first | (at_builtin; refine listAppS _ rfl _ _ rfl (w.heap.size + 1) w2.heap.size 1 1 j (.slice va j vc) ws [X] rfl hsl rfl (unhide HS3) rfl (unhide HN1) (by simp) (by simp; omega) (by simp; omega) ?_; intro g cap w' h1 h2 h3; have S6 := hide h1; have B6 := hide (unhide HG w' h2); clear h1 h2 h3) | fail)
      exact ⟨⟨j + 1, _, by omega, by go_num, rfl, by rw [unhide HTX]; exact S6, B6⟩, by simp [intOf]; omega⟩
    · obtain rfl : j = ks.length := by omega
      obtain ⟨n0, n1, n2, n3, n4⟩ := unhide N5
      have hwb : w.heap.size < W0.heap.size := by omega
      have r0 := ((unhide hb).cell (p := ⟨w.heap.size, 0, none⟩) hwb).trans n0
      have r1 := ((unhide hb).cell (p := ⟨w.heap.size, 1, none⟩) hwb).trans n1
      have r2 := ((unhide hb).cell (p := ⟨w.heap.size, 2, none⟩) hwb).trans n2
      have r3 := ((unhide hb).cell (p := ⟨w.heap.size, 3, none⟩) hwb).trans n3
      have r4 := ((unhide hb).cell (p := ⟨w.heap.size, 4, none⟩) hwb).trans n4
      clear n0 n1 n2 n3 n4
      have mm1 := mLook h10
      have mm2 := mOwn h10
      have mm3 := eOwn h10
      have hso' := unhide hso
      rw [List.take_length] at hso'
      have HSO := hide hso'
      obtain ⟨j1, j2, j3, j4⟩ := join_node hn
      have ho6 := own_len hn
      have HJ1 := hide j1
      have HJ2 := hide j2
      have HJ3 := hide j3
      have hwl8 : (wordK k).size ≤ 8 := by
        rcases cases10 h10 with rfl | rfl | rfl | rfl | rfl | rfl | rfl | rfl | rfl | rfl <;> decide
      clear j1 j2 j3 hso hso'
      go_wp2_with (fail)
      refine (ownI h10 n m _ lo hi ta ks.length tc ts wr hn ((unhide HEV).kept (same_below (below_trans (unhide B0) (unhide hb)) hhi)) (by omega) ((unhide HTT).kept (unhide hb))).mono ?_
      rintro x w2 ⟨vo, rfl, hsr, hb2⟩
      have HSR := hide hsr
      have B2 := hide (below_trans (unhide hb) hb2)
      have S2 := hide ((unhide HSO).kept hb2)
      have hz2 := (unhide B2).size
      generalize hW : ks.map Rule.wr = ws at *
      have hwl : ws.length = ks.length := by rw [← hW]; simp
      generalize hO : ownW k n m ts = os at *
      have HG : Hid (∀ w', w2.grownBy w' (Value.slice va ks.length vc).ownBlock → Below W0.heap.size W0 w') := hide (fun w' h2 => below_grown (unhide B2) h2 (Nat.le_refl _) (fun q hq => by have := (unhide S2).blk q hq; omega))
      clear hb2 hb hsr HSO r0 r1 r2 r3 r4
      go_wp2_with (first | (at_builtin; refine listAppAny _ rfl _ _ rfl (w.heap.size + 1) wr.heap.size _ vo ws os rfl (unhide S2) rfl (unhide HSR) (unhide HJ1) (by omega) (by omega) ?_; intro g cap w3 h1 h2 h3; have S3 := hide h1; have B3 := hide (unhide HG w3 h2); have hg3 := h3; clear h1 h2 h3) | fail)
      have hJ := Tryz.strings_Join g 0 cap ((ws ++ os).map bytesOf) ⟨#[32]⟩ w3 (fun i x hx => by
        rw [List.getElem?_map] at hx
        obtain ⟨y, hy, rfl⟩ := Option.map_eq_some_iff.1 hx
        rw [Nat.zero_add]
        exact (unhide S3).cells i y hy) hg3 (by simp; omega) (by have := (unhide S3).cap; simpa using this) (by rw [bytes_map]; show (Lib.join (ws ++ os) [32]).length ≤ _; omega)
      rw [bytes_map] at hJ
      have e1 : ((ws ++ os).map bytesOf).length = ks.length + os.length := by simp [hwl]
      have e2 : Lib.join (ws ++ os) (⟨#[32]⟩ : ByteArray).data.toList = Lib.join (ws ++ os) [32] := rfl
      rw [e1, e2] at hJ
      generalize hJn : Lib.join (ws ++ os) [32] = J at *
      have HJ := hide hJ
      clear hJ e1 e2 hJn S3 HJ1 HSR S2 HG
      refine (unhide HJ).mono ?_
      rintro x w4 ⟨rfl, hb4⟩
      have B4 := hide (below_trans (unhide B3) hb4)
      have hJl : J.length ≤ 200000 := by omega
      have fl : ∀ (w : World), (Instr.field 192 (.agg #[.string (wordK k), .int .i64 (kidsK k)]) 0).run Tryz.prog w = .ok (.string (wordK k)) w := fun w => by kernel_rfl
      clear hb4 B3 HJ mm2 mm3
      by_cases hwe : wordK k = ByteArray.empty
      · have hxe : (wordK k).toList.isEmpty = true := by rw [hwe, Lib.toList_data]; rfl
        have HE := hide (unhide HJ2 hwe)
        clear hwe HJ2 HJ3
        go_wp2_with (first | (go_at_call 262; refine (Kinds.look (wordK k) (kidsK k) _).mono ?_; rintro x w6 ⟨rfl, hb6⟩; have B6 := hide (below_trans (unhide B4) hb6); clear hb6) | fail)
        go_ret
        exact ⟨by rw [← unhide HE]; rfl, below_trans (unhide B0) (unhide B6)⟩
      · have hxe : (wordK k).toList.isEmpty = false := by
          cases h : (wordK k).toList.isEmpty
          · rfl
          · exfalso
            refine hwe ?_
            have : (wordK k).toList = [] := List.isEmpty_iff.1 h
            rw [Lib.toList_data] at this
            apply ByteArray.ext
            apply Array.ext'
            simpa using this
        have HE := hide (unhide HJ3 hwe)
        clear hwe HJ2 HJ3
        go_wp2_with (first | (go_at_call 262; refine (Kinds.look (wordK k) (kidsK k) _).mono ?_; rintro x w6 ⟨rfl, hb6⟩; have B6 := hide (below_trans (unhide B4) hb6); clear hb6) | fail)
        go_ret
        refine ⟨?_, below_trans (unhide B0) (unhide B6)⟩
        rw [unhide HE]
        refine congrArg (fun z => Ending.returned (Value.string z)) ?_
        apply ByteArray.ext
        simp [bytesOf, wordL]
theorem wrI_all : ∀ d, WrIC d
  | 0 => wrI_step (fun d' h => by omega)
  | d + 1 => wrI_step (fun d' h => by
    obtain rfl : d = d' := by omega
    exact wrI_all d)

set_option maxRecDepth 20000 in
/-- impl.RuleText -/
theorem textI (d lo hi : Nat) (v : Value) (e : Ex) (w : World) (h : EV lo hi w d v e) (hhi : hi ≤ w.heap.size) (hw : wt e ≤ 1048576) (hT : Tens w) :
    Calls Tryz.prog 96 #[v] w fun x w' => x = .returned (.string (bytesOf (textE e))) ∧ Below w.heap.size w w' := by
  obtain ⟨ka, kc, ta, tc, rfl⟩ := h.form
  have HE := hide h
  have HT := hide hT
  generalize hr : textE e = r
  have HR := hide hr
  clear h hr hT
  have hN := new5 w (.int .i64 e.kind) (.int .i64 e.num) (.string e.meter) (.slice ka e.kids.length kc) (.slice ta e.tiers.length tc) 77
  obtain ⟨W0, hW0⟩ : ∃ W0, w.alloc (.cells #[.int .i64 e.kind, .int .i64 e.num, .string e.meter, .slice ka e.kids.length kc, .slice ta e.tiers.length tc] 77) = W0 := ⟨_, rfl⟩
  have B0 : Hid (Below w.heap.size w W0) := hide (by rw [← hW0]; exact below_alloc _ _)
  have hs0 : W0.heap.size = w.heap.size + 1 := by rw [← hW0]; simp
  rw [hW0] at hN
  have HW0 := hide hW0
  have N5 := hide hN
  obtain ⟨c0, c1, c2, c3, c4⟩ := hN
  clear hW0
  go_enter Tryz.func96, Tryz.ntmps96
  go_wp2_with (fail)
  rw [unhide HW0]
  refine (okI d lo hi _ e W0 ((unhide HE).kept (same_below (unhide B0) hhi)) (by omega) hw).mono ?_
  rintro x w1 ⟨rfl, hb1⟩
  have B1 := hide (below_trans (unhide B0) hb1)
  have hwb : w.heap.size < W0.heap.size := by omega
  obtain ⟨n0, n1, n2, n3, n4⟩ := unhide N5
  have r0 := (hb1.cell (p := ⟨w.heap.size, 0, none⟩) hwb).trans n0
  have r1 := (hb1.cell (p := ⟨w.heap.size, 1, none⟩) hwb).trans n1
  have r2 := (hb1.cell (p := ⟨w.heap.size, 2, none⟩) hwb).trans n2
  have r3 := (hb1.cell (p := ⟨w.heap.size, 3, none⟩) hwb).trans n3
  have r4 := (hb1.cell (p := ⟨w.heap.size, 4, none⟩) hwb).trans n4
  clear hb1 c0 c1 c2 c3 c4 n0 n1 n2 n3 n4
  cases hk : okE e
  · have hr : r = [] := by rw [← unhide HR, textE, hk]; rfl
    subst hr
    go_wp2_with (fail)
    go_ret
    exact ⟨rfl, unhide B1⟩
  · have hr : r = wr e := by rw [← unhide HR, textE, hk]; rfl
    obtain ⟨o1, o2, _⟩ := ok_all hk
    have HX := hide hr
    clear hr hk
    go_wp2_with (fail)
    refine (wrI_all d lo hi _ e w1 ((unhide HE).kept (same_below (unhide B1) hhi)) (Nat.le_trans hhi (unhide B1).size) o1 (by omega) ((unhide HT).kept (unhide B1))).mono ?_
    rintro x w2 ⟨rfl, hb2⟩
    have B2 := hide (below_trans (unhide B1) hb2)
    clear hb2 r0 r1 r2 r3 r4
    rw [← unhide HX]
    go_wp2_with (fail)
    go_ret
    exact ⟨rfl, unhide B2⟩
end Go.Proofs.YtnchgeiinkaefaaGreatDoor.Rule
end

section
/-
  What the listed package variables give: the table of tens that strconv reads; the two errors of strconv.
-/
namespace Go.Proofs.YtnchgeiinkaefaaGreatDoor.Laid
open Go.RowKit

theorem gTab : Tryz.prog.globalNamed "internal/strconv.uint64pow10" = some 6 := by kernel_rfl
theorem tTab : (Tryz.prog.globals[6]?).map (·.type) = some 320 := by kernel_rfl
theorem cTab : Tryz.prog.cellsOf 320 = 20 := by kernel_rfl
theorem cU : Tryz.prog.cellsOf 245 = 1 := by kernel_rfl

/-- the table, where it is the third on the list -/
theorem tens3 {W : World} {x y : String × DataW Unit} {rest : List (String × DataW Unit)} (h : laidMet Tryz.prog (x :: y :: ("internal/strconv.uint64pow10", Rows.laid_internal_strconv_uint64pow10) :: rest) W) : Text.Tens W :=
  Lib.tabIs_of_head (k := .u64) (zs := Lib.pow10Tab) gTab tTab Tryz.underlying320 Tryz.underlying245 cU cTab h.tail.tail
end Go.Proofs.YtnchgeiinkaefaaGreatDoor.Laid
end

section
/-
  What the listed package variables give: all that strconv and strings read.
-/
namespace Go.Proofs.YtnchgeiinkaefaaGreatDoor.Laid
open Go.RowKit

theorem gES : Tryz.prog.globalNamed "strconv.ErrSyntax" = some 4 := by kernel_rfl
theorem tES : (Tryz.prog.globals[4]?).map (·.type) = some 62 := by kernel_rfl
theorem gER : Tryz.prog.globalNamed "strconv.ErrRange" = some 5 := by kernel_rfl
theorem tER : (Tryz.prog.globals[5]?).map (·.type) = some 62 := by kernel_rfl
theorem cES : Tryz.prog.cellsOf 313 = 1 := by kernel_rfl
theorem cStr : Tryz.prog.cellsOf 9 = 1 := by kernel_rfl
theorem star : "*" ++ "errors.errorString" = "*errors.errorString" := by decide
theorem rowES (u : TypeId) (h : Tryz.prog.typeName? 3 u = some "*errors.errorString") : u = 311 :=
  typeName_ptr_named (nm := "errors.errorString") (by rw [star]; kernel_rfl) (by kernel_rfl) (by decide) u (by rw [star]; exact h)

theorem env5 {W : World} {x y : String × DataW Unit} {rest : List (String × DataW Unit)} (hsh : W.ShapedOpen Tryz.prog) (h : laidMet Tryz.prog (x :: y :: ("internal/strconv.uint64pow10", Rows.laid_internal_strconv_uint64pow10) :: ("strconv.ErrRange", Rows.laid_strconv_ErrRange) :: ("strconv.ErrSyntax", Rows.laid_strconv_ErrSyntax) :: rest) W) : Text.Env W := by
  have h3 := h.tail.tail.tail
  obtain ⟨a0, s0, hv0, -, -, -⟩ := laid_sentinel h3 gER tER Tryz.underlying62 rowES Tryz.underlying311 Tryz.underlying313 rfl rfl Tryz.underlying9 cES cStr
  obtain ⟨a1, s1, hv1, -, -, -⟩ := laid_sentinel h3.tail gES tES Tryz.underlying62 rowES Tryz.underlying311 Tryz.underlying313 rfl rfl Tryz.underlying9 cES cStr
  exact ⟨tens3 h, Tryz.laysM145.s1_3 W hsh, ⟨_, _, hv1⟩, ⟨_, _, hv0⟩⟩
end Go.Proofs.YtnchgeiinkaefaaGreatDoor.Laid
end
