/-
  Texts of this proof laid together, in build order; each says of itself what it holds.
-/
import Derived.Test.YtnchgeiinkaefaaGreatDoorZap
import Derived.Test.YtnchgeiinkaefaaGreatDoorZak
import Derived.Test.YtnchgeiinkaefaaGreatDoorZae
import Derived.Lib.Join
import Derived.Test.YtnchgeiinkaefaaGreatDoorZaf
import Derived.Test.YtnchgeiinkaefaaGreatDoorZaa
import Derived.Test.YtnchgeiinkaefaaGreatDoorZag
import Derived.Deep.QuietTactic
import Derived.BigQuiet
section
/-
  impl.readExpr.
-/
namespace Go.Proofs.YtnchgeiinkaefaaGreatDoor.Rule
set_option linter.unusedVariables false
open Go.RowKit
open Tiers (T T0 TR hide unhide below_trans)
open Kinds hiding hide unhide below_trans ext_toList

/-- readExpr at texts of at most L bytes, n deep at most -/
def ReadC (n : Nat) : Prop := ∀ (t : List UInt8) (w : World), t.length < n → t.length ≤ 1000 → EnvR w →
  Calls Tryz.prog 95 #[.string (bytesOf t)] w fun x w' => ∃ (e : Ex) (kv tv : Value) (r : List UInt8), x = .returned (.tuple #[.agg #[.int .i64 e.kind, .int .i64 e.num, .string e.meter, kv, tv], .string (bytesOf r)]) ∧ ReadsI n t e r ∧ OX w' n w.heap.size w'.heap.size (e, kv, tv) ∧ Below w.heap.size w w'

theorem trimP (t : List UInt8) : Lib.trimPrefix t [32] = trimSp t := by
  unfold Lib.trimPrefix Lib.hasPrefix trimSp
  cases t with
  | nil => simp
  | cons a u =>
    by_cases h : a = 32
    · subst h; simp [List.isPrefixOf]
    · have : ¬ (32 : UInt8) = a := fun e => h e.symm
      simp [List.isPrefixOf, h, this]
theorem trimB {t : List UInt8} : Lib.trimPrefix t [40] = (if t.head? = some 40 then t.tail else t) ∧ Lib.hasPrefix t [40] = decide (t.head? = some 40) := by
  unfold Lib.trimPrefix Lib.hasPrefix
  cases t with
  | nil => simp
  | cons a u =>
    by_cases h : a = 40
    · subst h; simp [List.isPrefixOf]
    · have : ¬ (40 : UInt8) = a := fun e => h e.symm
      simp [List.isPrefixOf, h, this]

theorem fieldsGoD_len : ∀ (f : Nat) (cur l : List UInt8), (Lib.fieldsGoD f cur l).length ≤ cur.length + l.length ∧ ∀ x ∈ Lib.fieldsGoD f cur l, x.length ≤ cur.length + l.length
  | 0, cur, l => by
    rw [Lib.fieldsGoD]
    by_cases h : cur = []
    · simp [h]
    · have : 1 ≤ cur.length := List.length_pos_iff.2 h
      simp [h]; omega
  | f + 1, cur, l => by
    have hc : (if cur = [] then ([] : List (List UInt8)) else [cur]).length ≤ cur.length ∧ ∀ x ∈ (if cur = [] then ([] : List (List UInt8)) else [cur]), x.length ≤ cur.length := by
      by_cases h : cur = []
      · simp [h]
      · have : 1 ≤ cur.length := List.length_pos_iff.2 h
        simp [h]; omega
    rw [Lib.fieldsGoD]
    by_cases hl : l = []
    · rw [if_pos hl]
      exact ⟨by have := hc.1; omega, fun x hx => by have := hc.2 x hx; omega⟩
    rw [if_neg hl]
    by_cases hs : Lib.isSpaceR (Lib.decodeL l).1 = true
    · rw [if_pos hs]
      obtain ⟨a1, a2⟩ := fieldsGoD_len f [] (l.drop (Lib.decodeL l).2)
      simp only [List.length_nil, List.length_drop] at a1 a2
      refine ⟨by rw [List.length_append]; have := hc.1; omega, fun x hx => ?_⟩
      rcases List.mem_append.1 hx with h | h
      · have := hc.2 x h; omega
      · have := a2 x h; omega
    · rw [if_neg hs]
      obtain ⟨a1, a2⟩ := fieldsGoD_len f (cur ++ l.take (Lib.decodeL l).2) (l.drop (Lib.decodeL l).2)
      simp only [List.length_append, List.length_take, List.length_drop] at a1 a2
      exact ⟨by omega, fun x hx => by have := a2 x hx; omega⟩
theorem fieldsD_len (l : List UInt8) : (Lib.fieldsD l).length ≤ l.length ∧ ∀ x ∈ Lib.fieldsD l, x.length ≤ l.length := by
  have := fieldsGoD_len (l.length + 1) [] l
  simpa [Lib.fieldsD] using this
theorem KeepB.toBelow {eb B : Nat} {w W W' : World} (h : KeepB eb B W W') (hb : Below w.heap.size w W) (h1 : w.heap.size ≤ eb) (h2 : w.heap.size ≤ B) : Below w.heap.size w W' :=
  ⟨h.os.trans hb.os, h.tape.trans hb.tape, h.output.trans hb.output, Nat.le_trans hb.size h.size, fun j hj => (h.block j (by omega) (Nat.lt_of_lt_of_le hj hb.size) (by omega)).trans (hb.block j hj)⟩
/-- words behind the kids, under way -/
structure RdO (w6 wr : World) (B eb : Nat) (k : Int) (kv : Value) (ws : List (List UInt8)) (j : Nat) (n' : Int) (ts : List T) (tv : Value) : Prop where
  box : Boxes.At wr eb [.int .i64 k, .int .i64 n', .string ⟨#[]⟩, kv, tv]
  tiers : TO wr B tv ts
  owns : OwnsOf (ws.take j) 0 [] n' ts
  keep : KeepB eb B w6 wr

theorem RdK.fin {w wo w6 wr : World} {n eb kb nk : Nat} {k : Int} {r1 r : List UInt8} {xs : List X} {ws : List (List UInt8)} {n' : Int} {ts : List T} {tv : Value} (hI : RdK w wo n w.heap.size eb kb nk k r1 nk xs r) (h6 : Below wo.heap.size wo w6) (hO : RdO w6 wr w6.heap.size eb k (.slice (some ⟨kb, 0, none⟩) nk nk) ws ws.length n' ts tv) (hk : nk ≤ 3) (ht : ts.length ≤ 1000) (v0 v1 v2 v3 v4 : Value) :
    OX (((((wr.setCell ⟨w.heap.size, 0, none⟩ v0).setCell ⟨w.heap.size, 1, none⟩ v1).setCell ⟨w.heap.size, 2, none⟩ v2).setCell ⟨w.heap.size, 3, none⟩ v3).setCell ⟨w.heap.size, 4, none⟩ v4) (n + 1) w.heap.size (((((wr.setCell ⟨w.heap.size, 0, none⟩ v0).setCell ⟨w.heap.size, 1, none⟩ v1).setCell ⟨w.heap.size, 2, none⟩ v2).setCell ⟨w.heap.size, 3, none⟩ v3).setCell ⟨w.heap.size, 4, none⟩ v4).heap.size (.mk k n' ⟨#[]⟩ (xs.map (·.1)) ts, .slice (some ⟨kb, 0, none⟩) nk nk, tv) ∧
    Below w.heap.size w (((((wr.setCell ⟨w.heap.size, 0, none⟩ v0).setCell ⟨w.heap.size, 1, none⟩ v1).setCell ⟨w.heap.size, 2, none⟩ v2).setCell ⟨w.heap.size, 3, none⟩ v3).setCell ⟨w.heap.size, 4, none⟩ v4) := by
  obtain ⟨⟨l1, l2⟩, hrow, hch, heb, hrb, hkk, hv, hbl, b1, b2, b3, b4⟩ := hI
  obtain ⟨o1, o2, o3, o4⟩ := hO
  have z6 := h6.size
  have z4 := o4.size
  have hW : ∀ c, c ≠ w.heap.size → (((((wr.setCell ⟨w.heap.size, 0, none⟩ v0).setCell ⟨w.heap.size, 1, none⟩ v1).setCell ⟨w.heap.size, 2, none⟩ v2).setCell ⟨w.heap.size, 3, none⟩ v3).setCell ⟨w.heap.size, 4, none⟩ v4).heap[c]? = wr.heap[c]? := fun c hc => by
    have k : ∀ (V : World) (o : Nat) (u : Value), (V.setCell ⟨w.heap.size, o, none⟩ u).heap[c]? = V.heap[c]? := fun V o u => Below.heap_setCell V ⟨w.heap.size, o, none⟩ u c (by simpa using hc)
    rw [k, k, k, k, k]
  have hsz : (((((wr.setCell ⟨w.heap.size, 0, none⟩ v0).setCell ⟨w.heap.size, 1, none⟩ v1).setCell ⟨w.heap.size, 2, none⟩ v2).setCell ⟨w.heap.size, 3, none⟩ v3).setCell ⟨w.heap.size, 4, none⟩ v4).heap.size = wr.heap.size := by simp
  have hBB : Below w.heap.size w wr := o4.toBelow (below_trans hbl h6) (by omega) (by omega)
  have hfin := below_put5 hBB (b := w.heap.size) (Nat.le_refl _) v0 v1 v2 v3 v4
  generalize (((((wr.setCell ⟨w.heap.size, 0, none⟩ v0).setCell ⟨w.heap.size, 1, none⟩ v1).setCell ⟨w.heap.size, 2, none⟩ v2).setCell ⟨w.heap.size, 3, none⟩ v3).setCell ⟨w.heap.size, 4, none⟩ v4) = W at *
  have hall : ∀ c, kb ≤ c → c < wo.heap.size → W.heap[c]? = wo.heap[c]? := fun c c1 c2 => ((hW c (by omega)).trans (o4.block c (by omega) (by omega) (by omega))).trans (h6.block c c2)
  refine ⟨⟨⟨by show (⟨#[]⟩ : ByteArray).size ≤ maxLen; decide, by show ts.length ≤ maxLen; unfold maxLen; omega⟩, w6.heap.size, ?_, ?_⟩, hfin⟩
  · rw [Nat.sub_self, List.replicate_zero, List.append_nil] at hrow
    refine ⟨by omega, .inr ⟨kb, nk, xs, by simp [Ex.kids, l1], rfl, by simp [Ex.kids]; omega, by omega, by omega, hrow.kept (hall kb (Nat.le_refl _) b3), ?_⟩⟩
    have h1 := hch.imp (R' := OX W n) (lo := kb + 1) (hi := wo.heap.size) (fun s e y hs he hy => hy.kept (fun c c1 c2 => hall c (by omega) (by omega))) (Nat.le_refl _) (Nat.le_refl _)
    have h2 := h1.append (ys := []) (e := w6.heap.size) z6 (fun s s' e y hs hy => hy.mono hs (Nat.le_refl _))
    rw [List.append_nil] at h2
    exact h2
  · rw [hsz]
    exact (o2.ot z4).kept (fun c c1 c2 => hW c (by omega))

set_option maxRecDepth 20000 in
set_option maxHeartbeats 1600000 in
theorem read_step {n : Nat} (H : ReadC n) : ReadC (n + 1) := by
  intro t w hn hl he
  have hbl : (bytesOf t).size = t.length := bsize t
  have hd : (bytesOf t).data.toList = t := by simp [bytesOf]
  have hcp := Tryz.strings_CutPrefix (bytesOf t) ⟨#[40]⟩
  have e40 : (⟨#[40]⟩ : ByteArray).data.toList = [40] := rfl
  rw [hd, e40] at hcp
  obtain ⟨tb1, tb2⟩ := trimB (t := t)
  rw [tb1, tb2] at hcp
  have HCP := hide hcp
  clear hcp tb1 tb2
  by_cases hh : t.head? = some 40
  · obtain ⟨u, rfl⟩ : ∃ u, t = 40 :: u := by
      cases t with
      | nil => simp at hh
      | cons a u => simp at hh; exact ⟨u, by rw [hh]⟩
    have e1 : (if (40 :: u).head? = some 40 then (40 :: u).tail else 40 :: u) = u := by simp
    have e2 : decide ((40 :: u).head? = some (40 : UInt8)) = true := by simp
    have hC := unhide HCP
    rw [e1, e2] at hC
    have HC := hide hC
    clear hC e1 e2 HCP hh
    go_enter Tryz.func95, Tryz.ntmps95
    go_wp2_with (fail)
    have HE0 : Hid (EnvR (w.alloc (.cells #[.int .i64 0, .int .i64 0, .string ⟨#[]⟩, .slice none 0 0, .slice none 0 0] 77))) := hide (he.kept (below_alloc _ _))
    refine (unhide HC _).mono ?_
    rintro x w0 ⟨rfl, hw0⟩
    subst hw0
    have hdu : (bytesOf u).data.toList = u := by simp [bytesOf]
    have hbu : (bytesOf u).size = u.length := bsize u
    simp only [List.length_cons] at hn hl
    go_wp2_with (fail)
    refine (cutI (bytesOf u) _ (by omega)).mono ?_
    rintro x w1 ⟨wd, r1, rfl, hcut, hb1⟩
    rw [hdu] at hcut
    have hlen : u.length = wd.length + r1.length := by rw [hcut.1]; simp
    have HE1 := hide ((unhide HE0).kept hb1)
    obtain ⟨q1, hB, hz1⟩ := Boxes.box1 hb1
    have Q1 := hide q1
    have B1 := hide hB
    have HCUT := hide hcut
    clear hb1 hB q1 hcut
    go_wp2_with (fail)
    refine (namedI (bytesOf wd) w1).mono ?_
    rintro x w2 ⟨rfl, hb2⟩
    have HE2 := hide ((unhide HE1).kept hb2)
    have B2 := hide (below_trans (unhide B1) hb2)
    have Q2 := hide ((unhide Q1).below hb2 (by omega))
    have hz2 := hb2.size
    clear hb2 HE1 B1 Q1 HE0
    have hop := opK_range (bytesOf wd)
    generalize hk : opK (bytesOf wd) = k at *
    have HK := hide hk
    clear hk
    by_cases hk0 : k = 0
    · subst hk0
      have b0 : ((0 : Int) == 0) = true := rfl
      have hq := (unhide Q2).below (below_alloc w2 (.cells #[.int .i64 0, .int .i64 0, .string ⟨#[]⟩, .slice none 0 0, .slice none 0 0] 77)) (by omega)
      have Q3 := hide hq
      obtain ⟨c0, f0⟩ := hq 0 _ rfl
      obtain ⟨c1, f1⟩ := hq 1 _ rfl
      obtain ⟨c2, f2⟩ := hq 2 _ rfl
      obtain ⟨c3, f3⟩ := hq 3 _ rfl
      obtain ⟨c4, f4⟩ := hq 4 _ rfl
      clear hq
      go_wp2_with (fail)
      have hA5 := at_put5 (unhide Q3) (.int .i64 0) (.int .i64 0) (.string ⟨#[]⟩) (.slice none 0 0) (.slice none 0 0)
      obtain ⟨r0, _⟩ := hA5 0 _ rfl
      obtain ⟨r1', _⟩ := hA5 1 _ rfl
      obtain ⟨r2, _⟩ := hA5 2 _ rfl
      obtain ⟨r3, _⟩ := hA5 3 _ rfl
      obtain ⟨r4, _⟩ := hA5 4 _ rfl
      refine bodyPost_ret (v := .tuple #[.agg #[.int .i64 0, .int .i64 0, .string ⟨#[]⟩, .slice none 0 0, .slice none 0 0], .string (bytesOf r1)]) ?_ ?_ ?_
      · simp [results, Tryz.results95, go_sem, r0, r1', r2, r3, r4]
      · rfl
      have hBB : Below w.heap.size w _ := below_put5 (below_trans (unhide B2) (below_alloc w2 (.cells #[.int .i64 0, .int .i64 0, .string ⟨#[]⟩, .slice none 0 0, .slice none 0 0] 77))) (b := w.heap.size) (Nat.le_refl _) (.int .i64 0) (.int .i64 0) (.string ⟨#[]⟩) (.slice none 0 0) (.slice none 0 0)
      refine ⟨.mk 0 0 ⟨#[]⟩ [] [], _, _, r1, rfl, .inr ⟨u, rfl, wd, r1, unhide HCUT, .inl ⟨unhide HK, rfl, rfl⟩⟩, ⟨⟨by show (⟨#[]⟩ : ByteArray).size ≤ _; decide, by show 0 ≤ _; omega⟩, w.heap.size, OS.nil _ _ (Nat.le_refl _), OT.nil _ _ hBB.size⟩, hBB⟩
    · have b0 : (k == 0) = false := by simpa using hk0
      have h10 : 1 ≤ k ∧ k ≤ 10 := by omega
      have hkv := kindV_in h10
      have mm1 := mLook h10
      obtain ⟨nk, hnk⟩ : ∃ nk : Nat, kidsK k = nk := Int.eq_ofNat_of_zero_le (by have := kids_range (show 3 ≤ k ∧ k ≤ 10 by omega); omega)
      have hn3 := kids_range (show 3 ≤ k ∧ k ≤ 10 by omega)
      rw [hnk] at hn3
      have hmk := makeE nk (by omega)
      have fl : ∀ (w : World), (Instr.field 192 (.agg #[.string (wordK k), .int .i64 (nk : Int)]) 1).run Tryz.prog w = .ok (.int .i64 (nk : Int)) w := fun w => by kernel_rfl
      go_wp2_with (fail)
      refine (kindOf _ _).mono ?_
      rintro x w3 ⟨rfl, hw3⟩
      subst hw3
      rw [hkv]
      go_wp2_with (first | (go_at_call 262; refine (Kinds.look (wordK k) (kidsK k) _).mono ?_; rintro x w4 ⟨rfl, hb4⟩; obtain ⟨q4, B4', hz4⟩ := Boxes.box1 hb4; have HB4 := hide hb4; have Q4 := hide q4; have q5 := q4.below (below_alloc w4 (.cells (madeCells zero5 (nk * 5)) 77)) (by omega); have Q5 := hide q5; obtain ⟨c3, f3⟩ := q5 3 _ rfl; have B4 := hide (below_trans (unhide B2) B4'); clear hb4 q4 q5 B4') | fail)
      have hne : w4.heap.size ≠ w2.heap.size := by omega
      have HB5 : Hid (Below w2.heap.size w2 ((w4.alloc (.cells (madeCells zero5 (nk * 5)) 77)).setCell ⟨w2.heap.size, 3, none⟩ (.slice (some ⟨w4.heap.size, 0, none⟩) nk nk))) := hide (by
        have h1 := below_trans (below_trans (below_alloc w2 (.cells #[.int .i64 k, .int .i64 0, .string ⟨#[]⟩, .slice none 0 0, .slice none 0 0] 77)) (unhide HB4)) (below_alloc w4 (.cells (madeCells zero5 (nk * 5)) 77))
        exact h1.setCell (p := ⟨w2.heap.size, 3, none⟩) (Nat.le_refl _) _)
      have HR0 : Hid (RdK w ((w4.alloc (.cells (madeCells zero5 (nk * 5)) 77)).setCell ⟨w2.heap.size, 3, none⟩ (.slice (some ⟨w4.heap.size, 0, none⟩) nk nk)) n w.heap.size w2.heap.size w4.heap.size nk k r1 0 [] r1) := hide ⟨⟨rfl, by omega⟩, by
          have := (RowX.made w4 nk 77).kept (Below.heap_setCell (w4.alloc (.cells (madeCells zero5 (nk * 5)) 77)) ⟨w2.heap.size, 3, none⟩ (.slice (some ⟨w4.heap.size, 0, none⟩) nk nk) w4.heap.size (by simpa using hne))
          simpa using this, by show _ ≤ _; simp, (unhide Q5).set 3 _, (unhide Q2).below (unhide HB5) (by omega), rfl, (unhide HE2).kept (unhide HB5), below_trans (unhide B2) (unhide HB5), by omega, by omega, by simp, Nat.le_refl _⟩
      have HREC := hide H
      have HEW := hide he
      clear H he hmk fl mm1 hkv Q5 Q4 HB4 c3 f3 Q2 HB5 HE2 HC B2 B4 h10 b0
      generalize w2.heap.size = eb at *
      generalize w4.heap.size = kb at *
      go_loopw [7, 47] (fun t i wr => ∃ (j : Nat) (xs : List X) (r : List UInt8), j ≤ nk ∧ i = .int .i64 j ∧ t = .string (bytesOf r) ∧ Hid (RdK w wr n w.heap.size eb kb nk k r1 j xs r)) (fun _ i _ => nk - (intOf i).toNat)
      case atStart => exact ⟨0, [], r1, by omega, rfl, rfl, HR0⟩
      case round =>
        obtain ⟨j, xs, r, hj, rfl, rfl, hI⟩ := hrel
        have hrl := (unhide hI).rest (by omega)
        by_cases hlt : j < nk
        · obtain ⟨⟨l1, l2⟩, hrow, hch, heb, hrb, hkk, hv, hbl, b1, b2, b3, b4⟩ := unhide hI
          have htl := trim_len r
          have hTP := fun W => Tryz.strings_TrimPrefix (bytesOf r) ⟨#[32]⟩ W
          have e32 : (⟨#[32]⟩ : ByteArray).data.toList = [32] := rfl
          have hdr : (bytesOf r).data.toList = r := by simp [bytesOf]
          rw [hdr, e32, trimP] at hTP
          have HTP := hide hTP
          have HRC : Hid (∀ W : World, EnvR W → _) := hide (fun W hW => unhide HREC (trimSp r) W (by omega) (by omega) hW)
          have HEd : Hid (EnvR wr.drew) := hide (show EnvR wr.drew from hv.kept ⟨rfl, rfl, rfl, Nat.le_refl _, fun _ _ => rfl⟩)
          have g3 := (heb 3 _ rfl).1
          have G3 := hide g3
          have i1 : (j : Int) < (nk : Int) := by omega
          have i0 : (0 : Int) ≤ (j : Int) := by omega
          have HROW := hide hrow
          clear hTP hrow hch heb hrb hkk hv hbl e32
          have HF7 : Hid (∀ (W : World), wr.heap[kb]? = W.heap[kb]? → (∀ c u, (cells5 Z0)[c]? = some u → W.cell? ⟨kb, j * 5 + c, none⟩ = some u) ∧ ∀ c, W.frozen? ⟨kb, c, none⟩ = false) := hide (fun W hW => by
            have hr7 := (unhide HROW).kept hW.symm
            refine ⟨fun c u hu => hr7.1 j Z0 ?_ c u hu, hr7.2⟩
            rw [List.getElem?_append_right (by omega), l1, Nat.sub_self]
            cases hq : nk - j with
            | zero => omega
            | succ q => rfl)
          have ne1 : ¬ kb = eb := by omega
          have ne2 : ¬ eb = kb := by omega
          have hblr : w.heap.size ≤ wr.heap.size := by omega
          have hebr : eb < wr.heap.size := by omega
          clear HROW
          go_wp2_with (fail)
          go_region_held3 (fun w2 => w2.cell? ⟨eb, 3, none⟩ = some (.slice (some ⟨kb, 0, none⟩) nk nk)) (go_keep)
            (first | (go_at_call 120; refine (unhide HTP wr.drew).mono ?_; rintro x w6 ⟨rfl, hw6⟩; subst hw6) | (go_at_call 95; refine (unhide HRC wr.drew (unhide HEd)).mono ?_; rintro x w7 ⟨e, kv, tv, r', rfl, hre, hox, hb7⟩; have hB7 : Below wr.heap.size wr w7 := ⟨hb7.os, hb7.tape, hb7.output, hb7.size, hb7.block⟩; clear hb7; obtain ⟨xa, xc, hxf, _⟩ := hox.2.choose_spec.1.es.form; obtain ⟨ya, yc, hyf⟩ := hox.2.choose_spec.2.tl.form; simp only at hxf hyf; subst hxf hyf; have q3 := (hB7.cell (p := ⟨eb, 3, none⟩) hebr).trans g3; obtain ⟨hcc, hff⟩ := unhide HF7 w7 (hB7.block kb b3).symm; have k0 := hcc 0 _ rfl; have k1 := hcc 1 _ rfl; have k2 := hcc 2 _ rfl; have k3 := hcc 3 _ rfl; have k4 := hcc 4 _ rfl; have y0 := hff (j * 5); have y1 := hff (j * 5 + 1); have y2 := hff (j * 5 + 2); have y3 := hff (j * 5 + 3); have y4 := hff (j * 5 + 4); rw [Nat.add_zero] at k0))
          have HN : Hid (RdK w (put5W w7 kb j (e, .slice xa e.kids.length xc, .slice ya e.tiers.length yc)) n w.heap.size eb kb nk k r1 (j + 1) (xs ++ [(e, .slice xa e.kids.length xc, .slice ya e.tiers.length yc)]) r') := hide ((unhide hI).step hlt hB7 hox hre ((unhide HEW).kept (put5W_below (below_trans (unhide hI).below hB7) (by omega))))
          unfold put5W at HN
          clear hcc hff k0 k1 k2 k3 k4 y0 y1 y2 y3 y4 q3 hB7 hox hre HF7 hI
          go_wp2_with (fail)
          exact ⟨⟨j + 1, _, r', by omega, by go_num, rfl, HN⟩, by simp [intOf]; omega⟩
        · obtain rfl : j = nk := by omega
          have hrd := unhide hI
          have hlr : (bytesOf r).size = r.length := bsize r
          have hdr : (bytesOf r).data.toList = r := by simp [bytesOf]
          obtain ⟨mx, hmx⟩ := hrd.env.1.2.1
          have hcut := Tryz.strings_Cut (bytesOf r) ⟨#[41]⟩ mx wr (by omega) hmx
          have e41 : (⟨#[41]⟩ : ByteArray).data.toList = [41] := rfl
          rw [hdr, e41] at hcut
          have hlen2 := cut_len2 41 r
          have HCE : Hid (∃ c2, Lib.cut r [41] = ((Lib.cut r [41]).1, (Lib.cut r [41]).2.1, c2)) := hide ⟨_, rfl⟩
          generalize hC1 : (Lib.cut r [41]).1 = ow at *
          generalize hC2 : (Lib.cut r [41]).2.1 = r3 at *
          generalize (Lib.cut r [41]).2.2 = fnd at *
          have HC1 := hide hC1
          have HC2 := hide hC2
          have HCUT2 := hide hcut
          clear hcut hmx e41 hC1 hC2 hrd
          go_wp2_with (fail)
          refine (unhide HCUT2).mono ?_
          rintro x w5 ⟨rfl, nd, hw5⟩
          have B5 : Hid (Below wr.heap.size wr w5) := hide (by rw [hw5]; exact Text.below_drew nd)
          clear hw5 HCUT2
          have HE5 := hide ((unhide hI).env.kept (unhide B5))
          have hlo : (⟨ow.toArray⟩ : ByteArray).size = ow.length := by simp [ByteArray.size]
          go_wp2_with (fail)
          refine (Tryz.strings_Fields_any ⟨ow.toArray⟩ w5 (by omega) (unhide HE5).2.1 (unhide HE5).2.2).mono ?_
          rintro x w6 ⟨A, rfl, hA, hown, hb6⟩
          have eow : (⟨ow.toArray⟩ : ByteArray).data.toList = ow := rfl
          rw [eow] at hown ⊢
          obtain ⟨fl1, fl2⟩ := fieldsD_len ow
          have HWS : Hid (Low ow → Lib.fieldsD ow = Lib.fields ow) := hide (fun h => Lib.fieldsD_ascii ow h)
          generalize hws : Lib.fieldsD ow = ws at *
          have HFL := hide fl2
          have HOWN := hide hown
          have B6 := hide (below_trans (unhide B5) hb6)
          have hz6 := (unhide B6).size
          have hzA := (World.ownsRow.lt hown A rfl).2
          have hz5 := (unhide B5).size
          have hbk := (unhide hI).blocks
          have heb6 := (unhide hI).ebox.below (unhide B6) (by omega)
          have HO0 : Hid (RdO w6 w6 w6.heap.size eb k (.slice (some ⟨kb, 0, none⟩) j j) ws 0 0 [] (.slice none 0 0)) := hide ⟨heb6, TO.nil _ _, ⟨rfl, rfl⟩, KeepB.refl _ _ _⟩
          clear hown hb6 heb6 fl2 hws eow
          go_wp2_with (fail)
          have hwl6 : ws.length ≤ 1000 := by omega
          have hebB : eb < w6.heap.size := by omega
          have hAe : A ≠ eb := by omega
          have HENV : Hid (∀ W, KeepB eb w6.heap.size w6 W → Below w.heap.size w W) := hide (fun W hW => hW.toBelow (below_trans (unhide hI).below (unhide B6)) (by omega) (by omega))
          go_loopw [70] (fun i wr2 => ∃ (q : Nat) (n' : Int) (ts : List T) (tv : Value), q ≤ ws.length ∧ i = .int .i64 q ∧ ts.length ≤ q ∧ Hid (RdO w6 wr2 w6.heap.size eb k (.slice (some ⟨kb, 0, none⟩) j j) ws q n' ts tv)) (fun i _ => ws.length - (intOf i).toNat)
          case atStart => exact ⟨0, 0, [], .slice none 0 0, by omega, rfl, by simp, HO0⟩
          case round =>
            obtain ⟨q, n', ts, tv, hq, rfl, htq, hO⟩ := hrel
            by_cases hlt2 : q < ws.length
            · have hx : ws[q]? = some ws[q] := List.getElem?_eq_getElem hlt2
              have hxl := unhide HFL ws[q] (List.getElem_mem _)
              have hcell := World.ownsRow.cells (unhide HOWN) rfl q (.string ⟨ws[q].toArray⟩) (by rw [List.getElem?_map, hx]; rfl)
              rw [Addr.add_lit, Nat.zero_add] at hcell
              have hA2 := (World.cell?_of_block (w := w6) (a := ⟨A, q, none⟩) ((unhide hO).keep.block A (by omega) (by omega) hAe)).trans hcell
              have HTK : Hid (ws.take (q + 1) = ws.take q ++ [ws[q]]) := hide (by rw [List.take_add_one, hx]; rfl)
              have HRUN := hide (ownWI eb w6.heap.size ws[q] k n' ⟨#[]⟩ (.slice (some ⟨kb, 0, none⟩) j j) tv ts wr (by omega) ((unhide HEW).kept (unhide HENV _ (unhide hO).keep)).1 (unhide hO).box (unhide hO).tiers (by omega) hebB (unhide hO).keep.size)
              have i1 : (q : Int) < (ws.length : Int) := by omega
              have i0 : (0 : Int) ≤ (q : Int) := by omega
              clear hcell
              generalize ws[q] = wq at *
              go_wp2_with (fail)
              refine (unhide HRUN).mono ?_
              rintro x w8 ⟨rfl, n2, tv2, ts2, ho, hbx2, hto2, hkp2⟩
              have hts2 : ts2.length ≤ ts.length + 1 := by
                rcases ho with ⟨_, _, rfl⟩ | ⟨_, _, a, b, _, _, rfl⟩
                · omega
                · simp
              have HO2 : Hid (RdO w6 w8 w6.heap.size eb k (.slice (some ⟨kb, 0, none⟩) j j) ws (q + 1) n2 ts2 tv2) := hide ⟨hbx2, hto2, by rw [unhide HTK]; exact (unhide hO).owns.snoc ho, (unhide hO).keep.trans hkp2⟩
              clear ho hbx2 hto2 hkp2 HRUN hA2 hO
              go_wp2_with (fail)
              exact ⟨⟨q + 1, n2, ts2, tv2, by omega, by go_num, by omega, HO2⟩, by simp [intOf]; omega⟩
            · obtain rfl : q = ws.length := by omega
              obtain ⟨ta, tc, htf⟩ := (unhide hO).tiers.form
              subst htf
              have hbx := (unhide hO).box
              obtain ⟨x0, _⟩ := hbx 0 _ rfl
              obtain ⟨x1, _⟩ := hbx 1 _ rfl
              obtain ⟨x2, _⟩ := hbx 2 _ rfl
              obtain ⟨x3, _⟩ := hbx 3 _ rfl
              obtain ⟨x4, _⟩ := hbx 4 _ rfl
              have hrb := ((unhide hI).rbox.below (unhide B6) (by omega)).kept ((unhide hO).keep.block w.heap.size (by omega) (by omega) (by omega))
              have RB := hide hrb
              obtain ⟨c0, f0⟩ := hrb 0 _ rfl
              obtain ⟨c1, f1⟩ := hrb 1 _ rfl
              obtain ⟨c2, f2⟩ := hrb 2 _ rfl
              obtain ⟨c3, f3⟩ := hrb 3 _ rfl
              obtain ⟨c4, f4⟩ := hrb 4 _ rfl
              have HFIN := hide (RdK.fin (unhide hI) (unhide B6) (unhide hO) (by omega) (by omega) (.int .i64 k) (.int .i64 n') (.string ⟨#[]⟩) (.slice (some ⟨kb, 0, none⟩) j j) (.slice ta ts.length tc))
              have HRD : Hid (ReadsI (n + 1) (40 :: u) (.mk k n' ⟨#[]⟩ (xs.map (·.1)) ts) r3) := hide (.inr ⟨u, rfl, wd, r1, unhide HCUT, .inr ⟨by rw [unhide HK]; exact hk0, xs.map (·.1), r, ws, n', ts, by rw [unhide HK, hnk]; simp [(unhide hI).len.1], (unhide hI).kids, (unhide HC2).symm, by rw [unhide HC1]; exact unhide HWS, by rw [unhide HC1]; exact fl1, by have := (unhide hO).owns; rwa [List.take_length] at this, by rw [unhide HK]; rfl⟩⟩)
              clear hbx hrb hO hI
              go_wp2_with (fail)
              have hA5 := at_put5 (unhide RB) (.int .i64 k) (.int .i64 n') (.string ⟨#[]⟩) (.slice (some ⟨kb, 0, none⟩) j j) (.slice ta ts.length tc)
              obtain ⟨s0, _⟩ := hA5 0 _ rfl
              obtain ⟨s1, _⟩ := hA5 1 _ rfl
              obtain ⟨s2, _⟩ := hA5 2 _ rfl
              obtain ⟨s3, _⟩ := hA5 3 _ rfl
              obtain ⟨s4, _⟩ := hA5 4 _ rfl
              exact bodyPost_ret (v := .tuple #[.agg #[.int .i64 k, .int .i64 n', .string ⟨#[]⟩, .slice (some ⟨kb, 0, none⟩) j j, .slice ta ts.length tc], .string (bytesOf r3)]) (by simp [results, Tryz.results95, go_sem, s0, s1, s2, s3, s4, bytesOf]) rfl ⟨_, _, _, r3, rfl, unhide HRD, (unhide HFIN).1, (unhide HFIN).2⟩
  · have e1 : (if t.head? = some 40 then t.tail else t) = t := by simp [hh]
    have e2 : decide (t.head? = some (40 : UInt8)) = false := by simp [hh]
    have hC := unhide HCP
    rw [e1, e2] at hC
    have HC := hide hC
    clear hC e1 e2 HCP
    go_enter Tryz.func95, Tryz.ntmps95
    go_wp2_with (fail)
    have HE0 : Hid (EnvR (w.alloc (.cells #[.int .i64 0, .int .i64 0, .string ⟨#[]⟩, .slice none 0 0, .slice none 0 0] 77))) := hide (he.kept (below_alloc _ _))
    refine (unhide HC _).mono ?_
    rintro x w0 ⟨rfl, hw0⟩
    subst hw0
    go_wp2_with (fail)
    refine (cutI (bytesOf t) _ (by omega)).mono ?_
    rintro x w1 ⟨wd, r, rfl, hcut, hb1⟩
    rw [hd] at hcut
    have hlen : t.length = wd.length + r.length := by rw [hcut.1]; simp
    have HE1 := hide ((unhide HE0).kept hb1)
    obtain ⟨q1, hB, hz1⟩ := Boxes.box1 hb1
    have Q1 := hide q1
    have B1 := hide hB
    have HCUT := hide hcut
    clear hb1 hB q1 hcut
    go_wp2_with (fail)
    refine (leafI wd w1 (by omega) (unhide HE1).1).mono ?_
    rintro x w2 ⟨e, rfl, hleaf, ⟨z1, z2, z3⟩, hb2⟩
    have hq := (unhide Q1).below hb2 (by omega)
    have Q2 := hide hq
    have B2 := hide (below_trans (unhide B1) hb2)
    obtain ⟨c0, f0⟩ := hq 0 _ rfl
    obtain ⟨c1, f1⟩ := hq 1 _ rfl
    obtain ⟨c2, f2⟩ := hq 2 _ rfl
    obtain ⟨c3, f3⟩ := hq 3 _ rfl
    obtain ⟨c4, f4⟩ := hq 4 _ rfl
    clear hb2 hq
    have HF : Hid (ReadsI (n + 1) t e r ∧ ∀ W : World, w.heap.size ≤ W.heap.size → OX W (n + 1) w.heap.size W.heap.size (e, .slice none 0 0, .slice none 0 0)) := hide ⟨.inl ⟨hh, wd, unhide HCUT, hleaf⟩, fun W hW => ⟨⟨by show e.meter.size ≤ _; unfold maxLen; omega, by show e.tiers.length ≤ _; rw [z2]; simp⟩, w.heap.size, by show OS _ _ _ _ _ e.kids; rw [z1]; exact OS.nil _ _ (Nat.le_refl _), by show OT _ _ _ _ e.tiers; rw [z2]; exact OT.nil _ _ hW⟩⟩
    clear z1 z2 z3 hleaf
    obtain ⟨ek, en, em, ks0, ts0⟩ := e
    simp only [leafV, Ex.kind, Ex.num, Ex.meter]
    go_wp2_with (fail)
    have hA5 := at_put5 (unhide Q2) (.int .i64 ek) (.int .i64 en) (.string em) (.slice none 0 0) (.slice none 0 0)
    obtain ⟨r0, _⟩ := hA5 0 _ rfl
    obtain ⟨r1, _⟩ := hA5 1 _ rfl
    obtain ⟨r2, _⟩ := hA5 2 _ rfl
    obtain ⟨r3, _⟩ := hA5 3 _ rfl
    obtain ⟨r4, _⟩ := hA5 4 _ rfl
    exact bodyPost_ret (v := .tuple #[.agg #[.int .i64 ek, .int .i64 en, .string em, .slice none 0 0, .slice none 0 0], .string (bytesOf r)]) (by simp [results, Tryz.results95, go_sem, r0, r1, r2, r3, r4]) rfl ⟨_, _, _, r, rfl, (unhide HF).1, (unhide HF).2 _ (by have := (unhide B2).size; simpa using this), below_put5 (unhide B2) (Nat.le_refl _) _ _ _ _ _⟩
theorem read_all : ∀ n, ReadC n
  | 0 => fun t w h => by omega
  | n + 1 => read_step (read_all n)
end Go.Proofs.YtnchgeiinkaefaaGreatDoor.Rule
end

section
/-
  Texts of expressions as the program writes them: words with a space between each two; no program in it.
-/
namespace Go.Proofs.YtnchgeiinkaefaaGreatDoor.Rule
set_option linter.unusedVariables false
open Tiers
open Kinds hiding hide unhide below_trans ext_toList

/-- the words behind the kids -/
def ownW (k n : Int) (m : ByteArray) (ts : List (Int × Int)) : List (List UInt8) :=
  if k = 1 ∨ k = 6 then [Lib.itoa n] else if k = 2 then [m.data.toList] else if k = 10 then ts.map tierW2 else []
theorem spaced_append : ∀ a b : List (List UInt8), spaced (a ++ b) = spaced a ++ spaced b
  | [], b => rfl
  | w :: a, b => by rw [List.cons_append, spaced, spaced, spaced_append a b]; simp
theorem spaced_wrS : ∀ ks : List Ex, spaced (ks.map wr) = wrS ks
  | [] => by simp [spaced, wrS]
  | e :: es => by rw [List.map_cons, spaced, wrS, spaced_wrS es]
theorem joinTail_spaced : ∀ ws : List (List UInt8), Lib.joinTail [32] ws = spaced ws
  | [] => rfl
  | w :: ws => by
    have h : Lib.joinTail [32] (w :: ws) = ([32] ++ w) ++ Lib.joinTail [32] ws := by simp [Lib.joinTail]
    rw [h, joinTail_spaced ws, spaced]; simp
theorem spaced_join {ws : List (List UInt8)} (h : ws ≠ []) : spaced ws = 32 :: Lib.join ws [32] := by
  cases ws with
  | nil => exact absurd rfl h
  | cons w ws => rw [Lib.join_cons, joinTail_spaced, spaced]
theorem spaced_own {k n : Int} {m : ByteArray} {ts : List (Int × Int)} (h3 : 3 ≤ k) (ht : k ≠ 10 → ts = []) : spaced (ownW k n m ts) = wrO k n ts := by
  unfold ownW wrO
  by_cases k6 : k = 6
  · subst k6
    obtain rfl := ht (by omega)
    simp [spaced, wrT]
  · rw [if_neg (by omega), if_neg (by omega), if_neg k6]
    by_cases k10 : k = 10
    · rw [if_pos k10, spaced_wrT]; rfl
    · rw [if_neg k10, ht k10]; rfl
theorem wordsW_eq {k n : Int} {m : ByteArray} {ks : List Ex} {ts : List (Int × Int)} (h3 : 3 ≤ k) (ht : k ≠ 10 → ts = []) (hk : ks ≠ []) :
    32 :: Lib.join (ks.map wr ++ ownW k n m ts) [32] = wrS ks ++ wrO k n ts := by
  rw [← spaced_join (by simp [hk]), spaced_append, spaced_wrS, spaced_own h3 ht]
end Go.Proofs.YtnchgeiinkaefaaGreatDoor.Rule
end

section
/-
  The methods 'own' of the kinds: the words behind the kids.
-/
namespace Go.Proofs.YtnchgeiinkaefaaGreatDoor.Rule
set_option linter.unusedVariables false
open Go.RowKit RegIn
open Tiers (T T0 TR hide unhide below_trans)
open Kinds hiding hide unhide below_trans ext_toList
open _root_.Go.Proofs.YtnchgeiinkaefaaGreatDoor.Text (Tens itoaI)

/-- a slice of words -/
def SR (W : World) (B : Nat) (v : Value) (ws : List (List UInt8)) : Prop := (ws = [] ∧ v = .slice none 0 0) ∨ (ws ≠ [] ∧ ∃ b cap, v = .slice (some ⟨b, 0, none⟩) ws.length cap ∧ ws.length ≤ cap ∧ B ≤ b ∧ b < W.heap.size ∧ ∀ j x, ws[j]? = some x → W.cell? ⟨b, j, none⟩ = some (.string (bytesOf x)))
/-- which function 'own' is -/
def ownF (k : Int) : Nat := if k = 1 then 266 else if k = 2 then 269 else if k = 6 then 274 else if k = 10 then 279 else 264
theorem mOwnPair (s : ByteArray) (n : Int) (f : Value) (w : World) : (method 453 224 (.agg #[.string s, .int .i64 n, f]) "loop.example/scot/impl.own").run Tryz.prog w = .ok (264, .agg #[.string s, .int .i64 n]) w := by kernel_rfl
theorem mOwnPart (s : ByteArray) (n : Int) (w : World) : (method 453 225 (.agg #[.string s, .int .i64 n]) "loop.example/scot/impl.own").run Tryz.prog w = .ok (274, .agg #[.string s, .int .i64 n]) w := by kernel_rfl
theorem mOwnIf (s : ByteArray) (n : Int) (w : World) : (method 453 226 (.agg #[.string s, .int .i64 n]) "loop.example/scot/impl.own").run Tryz.prog w = .ok (264, .agg #[.string s, .int .i64 n]) w := by kernel_rfl
theorem mOwnSteps (s : ByteArray) (n : Int) (w : World) : (method 453 227 (.agg #[.string s, .int .i64 n]) "loop.example/scot/impl.own").run Tryz.prog w = .ok (279, .agg #[.string s, .int .i64 n]) w := by kernel_rfl
theorem mOwnNum (s : ByteArray) (n : Int) (w : World) : (method 453 221 (.agg #[.string s, .int .i64 n]) "loop.example/scot/impl.own").run Tryz.prog w = .ok (266, .agg #[.string s, .int .i64 n]) w := by kernel_rfl
theorem mOwnMeter (s : ByteArray) (n : Int) (w : World) : (method 453 222 (.agg #[.string s, .int .i64 n]) "loop.example/scot/impl.own").run Tryz.prog w = .ok (269, .agg #[.string s, .int .i64 n]) w := by kernel_rfl
theorem mOwn {k : Int} (h : 1 ≤ k ∧ k ≤ 10) (w : World) : (method 453 (typeK k) (recK k) "loop.example/scot/impl.own").run Tryz.prog w = .ok (ownF k, lookV k) w := by
  rcases cases10 h with rfl | rfl | rfl | rfl | rfl | rfl | rfl | rfl | rfl | rfl
  · exact mOwnNum _ _ w
  · exact mOwnMeter _ _ w
  · exact mOwnPair _ _ _ w
  · exact mOwnPair _ _ _ w
  · exact mOwnPair _ _ _ w
  · exact mOwnPart _ _ w
  · exact mOwnPair _ _ _ w
  · exact mOwnPair _ _ _ w
  · exact mOwnIf _ _ w
  · exact mOwnSteps _ _ w
theorem eOwn {k : Int} (h : 1 ≤ k ∧ k ≤ 10) (args : Array Value) (w : World) : (callFunc (ownF k) args).run Tryz.prog w = .ok (.enter (ownF k) args) w := by
  rcases cases10 h with rfl | rfl | rfl | rfl | rfl | rfl | rfl | rfl | rfl | rfl
  all_goals kernel_rfl

theorem ownLook (s : ByteArray) (q k n : Int) (m : ByteArray) (kv tv : Value) (w : World) :
    Calls Tryz.prog 264 #[.agg #[.string s, .int .i64 q], .agg #[.int .i64 k, .int .i64 n, .string m, kv, tv]] w fun e w' => e = .returned (.slice none 0 0) ∧ Below w.heap.size w w' := by
  go_enter Tryz.func264, Tryz.ntmps264
  go_wp2
  go_ret
  exact ⟨rfl, by first | exact Below.refl _ _ | exact below2 _ _ _⟩

/-- a slice of one word, just made -/
theorem SR.one {W : World} {B b : Nat} {t : TypeId} {x : List UInt8} (hB : B ≤ b) (h : W.heap[b]? = some (.cells #[.string (bytesOf x)] t (0, 0))) : SR W B (.slice (some ⟨b, 0, none⟩) 1 1) [x] := by
  refine .inr ⟨by simp, b, 1, rfl, by simp, hB, ?_, fun j y hy => ?_⟩
  · refine Nat.lt_of_not_le fun hn => ?_
    have : W.heap[b]? = none := by simp; omega
    rw [this] at h; cases h
  · match j, hy with
    | 0, hy =>
      obtain rfl : x = y := by simpa using hy
      simp [World.cell?, h]

set_option maxHeartbeats 1000000 in
theorem ownNum (s : ByteArray) (q k n : Int) (m : ByteArray) (kv tv : Value) (w : World) (hn : -1000000000 ≤ n ∧ n ≤ 1000000000) (hT : Tens w) :
    Calls Tryz.prog 266 #[.agg #[.string s, .int .i64 q], .agg #[.int .i64 k, .int .i64 n, .string m, kv, tv]] w fun e w' => ∃ v, e = .returned v ∧ SR w' w.heap.size v [Lib.itoa n] ∧ Below w.heap.size w w' := by
  have HT := hide hT
  clear hT
  go_enter Tryz.func266, Tryz.ntmps266
  go_wp2_with (fail)
  refine (itoaI n _ (by omega) (by omega) ((unhide HT).kept (below2 _ _ _))).mono ?_
  rintro e w1 ⟨rfl, hb1⟩
  have HB := hide ((below2 _ _ _).trans (hb1.mono (by simp; omega)))
  clear hb1
  go_wp2_with (fail)
  go_ret
  exact ⟨_, rfl, SR.one (by have := (unhide HB).size; omega) (MapKept.heap_alloc _ _).1, below_trans (unhide HB) (below_alloc _ _)⟩

set_option maxHeartbeats 1000000 in
theorem ownPart (s : ByteArray) (q k n : Int) (m : ByteArray) (kv tv : Value) (w : World) (hn : -1000000000 ≤ n ∧ n ≤ 1000000000) (hT : Tens w) :
    Calls Tryz.prog 274 #[.agg #[.string s, .int .i64 q], .agg #[.int .i64 k, .int .i64 n, .string m, kv, tv]] w fun e w' => ∃ v, e = .returned v ∧ SR w' w.heap.size v [Lib.itoa n] ∧ Below w.heap.size w w' := by
  have HT := hide hT
  clear hT
  go_enter Tryz.func274, Tryz.ntmps274
  go_wp2_with (fail)
  refine (itoaI n _ (by omega) (by omega) ((unhide HT).kept (below2 _ _ _))).mono ?_
  rintro e w1 ⟨rfl, hb1⟩
  have HB := hide ((below2 _ _ _).trans (hb1.mono (by simp; omega)))
  clear hb1
  go_wp2_with (fail)
  go_ret
  exact ⟨_, rfl, SR.one (by have := (unhide HB).size; omega) (MapKept.heap_alloc _ _).1, below_trans (unhide HB) (below_alloc _ _)⟩

set_option maxHeartbeats 1000000 in
theorem ownMeter (s : ByteArray) (q k n : Int) (m : ByteArray) (kv tv : Value) (w : World) :
    Calls Tryz.prog 269 #[.agg #[.string s, .int .i64 q], .agg #[.int .i64 k, .int .i64 n, .string m, kv, tv]] w fun e w' => ∃ v, e = .returned v ∧ SR w' w.heap.size v [m.data.toList] ∧ Below w.heap.size w w' := by
  go_enter Tryz.func269, Tryz.ntmps269
  go_wp2_with (fail)
  go_ret
  refine ⟨_, rfl, SR.one (t := 9) (by omega) ?_, ?_⟩
  · have := (MapKept.heap_alloc ((w.alloc (.cells #[.string s, .int .i64 q] 222)).alloc (.cells #[.int .i64 k, .int .i64 n, .string m, kv, tv] 77)) (.cells #[.string m] 9)).1
    simp only [World.size_alloc] at this
    rw [bytes_self]
    exact this
  · exact below_trans (below2 _ _ _) (below_alloc _ _)
end Go.Proofs.YtnchgeiinkaefaaGreatDoor.Rule
end

section
/-
  The method 'own' of steps; all methods 'own'.
-/
namespace Go.Proofs.YtnchgeiinkaefaaGreatDoor.Rule
set_option linter.unusedVariables false
open Go.RowKit RegIn
open Tiers (T T0 TR hide unhide below_trans)
open Kinds hiding hide unhide below_trans ext_toList
open _root_.Go.Proofs.YtnchgeiinkaefaaGreatDoor.Text (Tens itoaI)

theorem new2 (w : World) (a b : Value) (t : TypeId) : (w.alloc (.cells #[a, b] t)).cell? ⟨w.heap.size, 0, none⟩ = some a ∧ (w.alloc (.cells #[a, b] t)).cell? ⟨w.heap.size, 1, none⟩ = some b := by
  have e1 := (MapKept.heap_alloc w (.cells #[a, b] t)).1
  simp only [World.cell?]
  rw [e1]; simp
theorem infoS : (Tryz.prog.info? 9).map (fun i => (i.zero, i.size, i.bytes)) = some (some (.string ByteArray.empty), 1, 16) := by kernel_rfl
/-- a row of n words under way: those that are laid -/
structure WRow (W : World) (b n : Nat) (ws : List (List UInt8)) : Prop where
  lt : b < W.heap.size
  at_ : ∀ j x, ws[j]? = some x → W.cell? ⟨b, j, none⟩ = some (.string (bytesOf x))
  any : ∀ j, j < n → ∃ v, W.cell? ⟨b, j, none⟩ = some v
  free : ∀ j, W.frozen? ⟨b, j, none⟩ = false
theorem WRow.kept {W W' : World} {b n : Nat} {ws : List (List UInt8)} (h : WRow W b n ws) (hb : Below W.heap.size W W') : WRow W' b n ws :=
  ⟨Nat.lt_of_lt_of_le h.lt hb.size, fun j x hx => (hb.cell (p := ⟨b, j, none⟩) h.lt).trans (h.at_ j x hx), fun j hj => by obtain ⟨v, hv⟩ := h.any j hj; exact ⟨v, (hb.cell (p := ⟨b, j, none⟩) h.lt).trans hv⟩, fun j => (hb.frozen (p := ⟨b, j, none⟩) h.lt).trans (h.free j)⟩
theorem WRow.set {W : World} {b n : Nat} {ws : List (List UInt8)} (h : WRow W b n ws) (hn : ws.length < n) (x : List UInt8) : WRow (W.setCell ⟨b, ws.length, none⟩ (.string (bytesOf x))) b n (ws ++ [x]) := by
  have hsame : ∀ u, (W.setCell ⟨b, ws.length, none⟩ u).cell? ⟨b, ws.length, none⟩ = some u := fun u => by
    obtain ⟨v, hv⟩ := h.any ws.length hn
    exact World.cell?_setCell_same _ _ _ hv
  have hoth : ∀ j u, j ≠ ws.length → (W.setCell ⟨b, ws.length, none⟩ u).cell? ⟨b, j, none⟩ = W.cell? ⟨b, j, none⟩ := fun j u hj => World.cell?_setCell_other _ _ _ _ (fun he => by simp only [Addr.mk.injEq, and_true, true_and] at he; omega)
  refine ⟨by simpa using h.lt, fun j y hy => ?_, fun j hj => ?_, fun j => by simpa [World.frozen?_setCell] using h.free j⟩
  · rcases Nat.lt_or_ge j ws.length with h1 | h1
    · rw [List.getElem?_append_left h1] at hy
      rw [hoth j _ (by omega)]; exact h.at_ j y hy
    · rw [List.getElem?_append_right h1] at hy
      have : j = ws.length := by
        have := (List.getElem?_eq_some_iff.1 hy).1
        simp at this; omega
      subst this
      obtain rfl : x = y := by simpa using hy
      exact hsame _
  · by_cases e : j = ws.length
    · subst e; exact ⟨_, hsame _⟩
    · rw [hoth j _ e]; exact h.any j hj
theorem WRow.made (w : World) (n : Nat) (t : TypeId) : WRow (w.alloc (.cells (madeCells #[.string ByteArray.empty] n) t)) w.heap.size n [] := by
  have e1 := (MapKept.heap_alloc w (.cells (madeCells #[.string ByteArray.empty] n) t)).1
  refine ⟨by simp, fun j x hx => by simp at hx, fun j hj => ?_, fun j => ?_⟩
  · simp only [World.cell?]
    rw [e1]
    refine ⟨(madeCells #[.string ByteArray.empty] n)[j]'(by rw [size_madeCells]; exact hj), ?_⟩
    simp [size_madeCells, hj]
  · simp only [World.frozen?]
    rw [e1]; simp

set_option maxHeartbeats 1000000 in
set_option maxRecDepth 20000 in
theorem ownSteps (s : ByteArray) (q k n : Int) (m : ByteArray) (kv : Value) (lo hi : Nat) (ta : Option Addr) (tc : Nat) (ts : List T) (w : World) (h0 : 1 ≤ ts.length) (h6 : ts.length ≤ 6) (hn : ∀ t ∈ ts, numOk t.1 ∧ numOk t.2) (hT : TL lo hi w (.slice ta ts.length tc) ts) (hhi : hi ≤ w.heap.size) (hTT : Tens w) :
    Calls Tryz.prog 279 #[.agg #[.string s, .int .i64 q], .agg #[.int .i64 k, .int .i64 n, .string m, kv, .slice ta ts.length tc]] w fun e w' => ∃ v, e = .returned v ∧ SR w' w.heap.size v (ts.map tierW2) ∧ Below w.heap.size w w' := by
  rcases hT with ⟨h, _⟩ | ⟨tb, tof, tcap, hta, hb1, hb2, htc⟩
  · rw [h] at h0; simp at h0
  simp only [Value.slice.injEq, true_and] at hta
  obtain ⟨rfl, rfl⟩ := hta
  have hmk := run_make_row' (P := Tryz.prog) 158 9 (.string ByteArray.empty) 16 Tryz.underlying158 infoS rfl .i64 .i64 ts.length (by omega) (by omega)
  have HTC := hide htc
  have HTT := hide hTT
  have HN := hide hn
  have hw2 := WRow.made ((w.alloc (.cells #[.string s, .int .i64 q] 227)).alloc (.cells #[.int .i64 k, .int .i64 n, .string m, kv, .slice (some ⟨tb, tof, none⟩) ts.length tc] 77)) ts.length 9
  have B0 : Hid (Below w.heap.size w (((w.alloc (.cells #[.string s, .int .i64 q] 227)).alloc (.cells #[.int .i64 k, .int .i64 n, .string m, kv, .slice (some ⟨tb, tof, none⟩) ts.length tc] 77)).alloc (.cells (madeCells #[.string ByteArray.empty] ts.length) 9))) := hide (below_trans (below2 _ _ _) (below_alloc _ _))
  simp only [World.size_alloc] at hw2
  have W2 := hide hw2
  clear htc hTT hn hw2
  go_enter Tryz.func279, Tryz.ntmps279
  go_wp2_with (fail)
  clear hmk
  go_loopw [15] (fun i wr => ∃ j : Nat, j ≤ ts.length ∧ i = .int .i64 j ∧ Hid (WRow wr (w.heap.size + 1 + 1) ts.length ((ts.take j).map tierW2)) ∧ Hid (Below w.heap.size w wr)) (fun i _ => ts.length - (intOf i).toNat)
  case atStart => exact ⟨0, by omega, rfl, W2, B0⟩
  case round =>
    obtain ⟨j, hj, rfl, hr, hb⟩ := hrel
    by_cases hlt : j < ts.length
    · obtain ⟨d0', d1'⟩ := unhide HTC j hlt
      have hbw : tb < w.heap.size := by omega
      have d0 := ((unhide hb).cell (p := ⟨tb, tof + j * 2, none⟩) hbw).trans d0'
      have d1 := ((unhide hb).cell (p := ⟨tb, tof + j * 2 + 1, none⟩) hbw).trans d1'
      have hnn := unhide HN (ts.getD j T0) (by simp [List.getD, hlt])
      have hte : ts.take (j + 1) = ts.take j ++ [ts.getD j T0] := by rw [List.take_add_one, List.getElem?_eq_getElem hlt]; simp [List.getD, hlt]
      have HTE : Hid ((ts.take (j + 1)).map tierW2 = (ts.take j).map tierW2 ++ [tierW2 (ts.getD j T0)]) := hide (by rw [hte]; simp)
      have hlen : ((ts.take j).map tierW2).length = j := by simp; omega
      clear d0' d1' hte
      generalize ts.getD j T0 = tt at *
      obtain ⟨p1, p2⟩ := tt
      obtain ⟨⟨n1, n2⟩, n3, n4⟩ := hnn
      simp only at d0 d1 n1 n2 n3 n4
      have i1 : (j : Int) < (ts.length : Int) := by omega
      have n5 := new2 wr (.int .i64 p1) (.int .i64 p2) 184
      obtain ⟨W5, hW5⟩ : ∃ W5, wr.alloc (.cells #[.int .i64 p1, .int .i64 p2] 184) = W5 := ⟨_, rfl⟩
      have B5 : Hid (Below wr.heap.size wr W5) := hide (by rw [← hW5]; exact below_alloc _ _)
      have hs5 : W5.heap.size = wr.heap.size + 1 := by rw [← hW5]; simp
      rw [hW5] at n5
      have HW5 := hide hW5
      obtain ⟨g0, g1⟩ := n5
      have HT5 : Hid (Tens W5) := hide (((unhide HTT).kept (unhide hb)).kept (unhide B5))
      have hg5 : wr.heap.size < W5.heap.size := by omega
      have HT5d : Hid (Tens W5.drew) := hide (show Tens W5.drew from unhide HT5)
      have sz1 : (Lib.itoa p1).length ≤ 11 := itoa_short ⟨n1, n2⟩
      have sz2 : (Lib.itoa p2).length ≤ 11 := itoa_short ⟨n3, n4⟩
      have HX1 : Hid (tierW2 (p1, p2) = Lib.itoa p1 ++ 58 :: Lib.itoa p2) := hide rfl
      have HC1 : Hid (∀ W : World, Tens W → Calls Tryz.prog 209 #[.int .i64 p1] W fun e w' => e = .returned (.string ⟨(Lib.itoa p1).toArray⟩) ∧ Below W.heap.size W w') := hide (fun W hW => itoaI p1 W (by omega) (by omega) hW)
      have HC2 : Hid (∀ W : World, Tens W → Calls Tryz.prog 209 #[.int .i64 p2] W fun e w' => e = .returned (.string ⟨(Lib.itoa p2).toArray⟩) ∧ Below W.heap.size W w') := hide (fun W hW => itoaI p2 W (by omega) (by omega) hW)
      generalize Lib.itoa p1 = I1 at *
      generalize Lib.itoa p2 = I2 at *
      have b1 : ¬ 9223372036854775807 ≤ I1.length := by omega
      have b1' : ¬ 9223372036854775807 < I1.length + 1 := by omega
      have b2 : ¬ 9223372036854775807 < I1.length + 1 + I2.length := by omega
      have hwr := (unhide hr).lt
      have ne1 : ¬ w.heap.size + 1 + 1 = wr.heap.size := by omega
      have ne2 : ¬ wr.heap.size = w.heap.size + 1 + 1 := by omega
      clear hW5
      go_wp2_with (fail)
      rw [unhide HW5]
      go_region_held3 (fun w2 => w2.cell? ⟨wr.heap.size, 0, none⟩ = some (.int .i64 p1) ∧ w2.cell? ⟨wr.heap.size, 1, none⟩ = some (.int .i64 p2)) (go_keep)
        (first | (refine (unhide HC1 W5.drew (unhide HT5d)).mono ?_; rintro x w6 ⟨rfl, hb6⟩; have hB6 : Below W5.heap.size W5 w6 := ⟨hb6.os, hb6.tape, hb6.output, hb6.size, hb6.block⟩; clear hb6; have q0 := (hB6.cell (p := ⟨wr.heap.size, 0, none⟩) hg5).trans g0; have q1 := (hB6.cell (p := ⟨wr.heap.size, 1, none⟩) hg5).trans g1) | (refine (unhide HC2 _ ((unhide HT5).kept hB6)).mono ?_; rintro x w7 ⟨rfl, hb7⟩; have hB7 : Below W5.heap.size W5 w7 := below_trans hB6 hb7; clear hb7; have r0 := (hB7.cell (p := ⟨wr.heap.size, 0, none⟩) hg5).trans g0; have r1 := (hB7.cell (p := ⟨wr.heap.size, 1, none⟩) hg5).trans g1; have hR7 := ((unhide hr).kept (unhide B5)).kept hB7; obtain ⟨c7, hc7⟩ := hR7.any j (by omega); have f7 := hR7.free j))
      have HR : Hid (WRow (w7.setCell ⟨w.heap.size + 1 + 1, j, none⟩ (.string (⟨I1.toArray⟩ ++ ⟨#[58]⟩ ++ ⟨I2.toArray⟩))) (w.heap.size + 1 + 1) ts.length ((ts.take (j + 1)).map tierW2)) := hide (by
        have := hR7.set (by omega) (tierW2 (p1, p2))
        rw [hlen, ← unhide HTE] at this
        have e : bytesOf (tierW2 (p1, p2)) = (⟨I1.toArray⟩ ++ ⟨#[58]⟩ ++ ⟨I2.toArray⟩ : ByteArray) := by rw [unhide HX1]; apply ByteArray.ext; simp [bytesOf]
        rw [e] at this
        exact this)
      have HB : Hid (Below w.heap.size w (w7.setCell ⟨w.heap.size + 1 + 1, j, none⟩ (.string (⟨I1.toArray⟩ ++ ⟨#[58]⟩ ++ ⟨I2.toArray⟩)))) := hide (by
        have := below_trans (below_trans (unhide hb) (unhide B5)) hB7
        exact this.setCell (by show w.heap.size ≤ w.heap.size + 1 + 1; omega) _)
      clear hc7 f7 hR7 hB7 hB6 q0 q1 r0 r1
      go_wp2_with (fail)
      exact ⟨⟨j + 1, by omega, by go_num, HR, HB⟩, by simp [intOf]; omega⟩
    · obtain rfl : j = ts.length := by omega
      go_wp2_with (fail)
      go_ret
      have hR := unhide hr
      rw [List.take_length] at hR
      refine ⟨_, rfl, .inr ⟨by simp; intro e; rw [e] at h0; simp at h0, w.heap.size + 1 + 1, ts.length, by simp, by simp, by omega, hR.lt, hR.at_⟩, unhide hb⟩

/-- the methods 'own' -/
theorem ownI {k : Int} (h : 1 ≤ k ∧ k ≤ 10) (n : Int) (m : ByteArray) (kv : Value) (lo hi : Nat) (ta : Option Addr) (nk tc : Nat) (ts : List T) (w : World) (hN : nodeB k n m nk ts = true) (hT : TL lo hi w (.slice ta ts.length tc) ts) (hhi : hi ≤ w.heap.size) (hTT : Tens w) :
    Calls Tryz.prog (ownF k) #[lookV k, .agg #[.int .i64 k, .int .i64 n, .string m, kv, .slice ta ts.length tc]] w fun e w' => ∃ v, e = .returned v ∧ SR w' w.heap.size v (ownW k n m ts) ∧ Below w.heap.size w w' := by
  have hpair : ∀ k : Int, ownW k n m ts = [] → Calls Tryz.prog 264 #[lookV k, .agg #[.int .i64 k, .int .i64 n, .string m, kv, .slice ta ts.length tc]] w fun e w' => ∃ v, e = .returned v ∧ SR w' w.heap.size v (ownW k n m ts) ∧ Below w.heap.size w w' := fun k hk => by
    refine (ownLook _ _ _ n m kv _ w).mono ?_
    rintro e w' ⟨rfl, hb⟩
    exact ⟨_, rfl, .inl ⟨hk, rfl⟩, hb⟩
  rcases cases10 h with rfl | rfl | rfl | rfl | rfl | rfl | rfl | rfl | rfl | rfl
  · exact ownNum _ _ _ n m kv _ w (by have := (node_num hN).2.1; unfold numOk at this; omega) hTT
  · exact ownMeter _ _ _ n m kv _ w
  · exact hpair 3 (by simp [ownW])
  · exact hpair 4 (by simp [ownW])
  · exact hpair 5 (by simp [ownW])
  · exact ownPart _ _ _ n m kv _ w (by have := (node_more hN (by omega) (by omega)).2.2.2.2.2.1; unfold numOk at this; omega) hTT
  · exact hpair 7 (by simp [ownW])
  · exact hpair 8 (by simp [ownW])
  · exact hpair 9 (by simp [ownW])
  · obtain ⟨t1, t2, t3⟩ := tier_ok ((node_more hN (by omega) (by omega)).2.2.2.2.2.2.2.1 rfl)
    exact ownSteps _ _ _ n m kv lo hi ta tc ts w t2 t1 t3 hT hhi hTT
end Go.Proofs.YtnchgeiinkaefaaGreatDoor.Rule
end
