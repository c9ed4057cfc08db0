/-
  Invoices and bills: the copy.
-/
import Derived.Test.YtdjjgoeinkbmjaaInvs
import Derived.Test.YtdjjgoeinkbmjaaBoxes
namespace Go.Proofs.Ytdjjgoeinkbmjaa.Bills
set_option linter.unusedVariables false
open Go.RowKit
open Evs (E E0 ER EN EC EOwn)
open BRow (R R0 RR RN RC ROwn)

theorem en_low {B b o : Nat} {W : World} {v u : Value} {l : List E} (h : EN B W v l) (hb : b < B) : EN B (W.setCell ⟨b, o, none⟩ u) v l := by
  rcases h with h | ⟨g, cap, rfl, ⟨h1, h2⟩, ⟨h3, h4⟩, h5⟩
  · exact .inl h
  · have e : ∀ j, (W.setCell ⟨b, o, none⟩ u).cell? ⟨g, j, none⟩ = W.cell? ⟨g, j, none⟩ := fun j => World.cell?_setCell_other _ _ _ _ (by intro he; simp only [Addr.mk.injEq] at he; omega)
    exact .inr ⟨g, cap, rfl, ⟨h1, h2⟩, ⟨by simpa using h3, fun i hi => by rw [e, e, e]; exact h4 i hi⟩, fun j => by simpa [World.frozen?_setCell] using h5 j⟩
theorem rn_low {B b o : Nat} {W : World} {v u : Value} {l : List R} (h : RN B W v l) (hb : b < B) : RN B (W.setCell ⟨b, o, none⟩ u) v l := by
  rcases h with h | ⟨g, cap, rfl, ⟨h1, h2⟩, ⟨h3, h4⟩, h5⟩
  · exact .inl h
  · have e : ∀ j, (W.setCell ⟨b, o, none⟩ u).cell? ⟨g, j, none⟩ = W.cell? ⟨g, j, none⟩ := fun j => World.cell?_setCell_other _ _ _ _ (by intro he; simp only [Addr.mk.injEq] at he; omega)
    exact .inr ⟨g, cap, rfl, ⟨h1, h2⟩, ⟨by simpa using h3, fun i hi => by rw [e, e, e]; exact h4 i hi⟩, fun j => by simpa [World.frozen?_setCell] using h5 j⟩

/-- six cells are set -/
abbrev set6 (W : World) (b o : Nat) (x : I) (rv ev : Value) : World :=
  (((((W.setCell ⟨b, o, none⟩ (.int .i64 x.no)).setCell ⟨b, o + 1, none⟩ rv).setCell ⟨b, o + 2, none⟩ ev).setCell ⟨b, o + 3, none⟩ (.int .i64 x.net)).setCell ⟨b, o + 4, none⟩ (.int .i64 x.tax)).setCell ⟨b, o + 5, none⟩ (.int .i64 x.credit)

theorem set6_other (W : World) (b o : Nat) (x : I) (rv ev : Value) (q : Addr) (h : q.block ≠ b ∨ q.off < o ∨ o + 6 ≤ q.off) : (set6 W b o x rv ev).cell? q = W.cell? q := by
  obtain ⟨qb, qo, qs⟩ := q
  simp only at h
  rw [World.cell?_setCell_other _ _ _ _ (by simp only [ne_eq, Addr.mk.injEq]; omega), World.cell?_setCell_other _ _ _ _ (by simp only [ne_eq, Addr.mk.injEq]; omega), World.cell?_setCell_other _ _ _ _ (by simp only [ne_eq, Addr.mk.injEq]; omega), World.cell?_setCell_other _ _ _ _ (by simp only [ne_eq, Addr.mk.injEq]; omega), World.cell?_setCell_other _ _ _ _ (by simp only [ne_eq, Addr.mk.injEq]; omega), World.cell?_setCell_other _ _ _ _ (by simp only [ne_eq, Addr.mk.injEq]; omega)]
theorem set_has (W : World) (p q : Addr) (u : Value) (h : ∃ v, W.cell? q = some v) : ∃ v, (W.setCell p u).cell? q = some v := by
  by_cases e : p = q
  · subst e
    obtain ⟨v, hv⟩ := h
    exact ⟨u, World.cell?_setCell_same _ _ _ hv⟩
  · rw [World.cell?_setCell_other _ _ _ _ e]; exact h
theorem set6_same (W : World) (b o : Nat) (x : I) (rv ev : Value) (h : ∀ j, j < 6 → ∃ v, W.cell? ⟨b, o + j, none⟩ = some v) : I6 (set6 W b o x rv ev) b o x rv ev := by
  have h0 := h 0 (by omega)
  have h1 := h 1 (by omega)
  have h2 := h 2 (by omega)
  have h3 := h 3 (by omega)
  have h4 := h 4 (by omega)
  have h5 := h 5 (by omega)
  rw [Nat.add_zero] at h0
  have ne : ∀ i j : Nat, i ≠ j → (⟨b, o + i, none⟩ : Addr) ≠ ⟨b, o + j, none⟩ := fun i j h e => h (by simp only [Addr.mk.injEq, and_true, true_and] at e; omega)
  have ne0 : ∀ i : Nat, 0 < i → (⟨b, o + i, none⟩ : Addr) ≠ ⟨b, o, none⟩ := fun i h e => by simp only [Addr.mk.injEq, and_true, true_and] at e; omega
  refine ⟨?_, ?_, ?_, ?_, ?_, ?_⟩
  · rw [World.cell?_setCell_other _ _ _ _ (ne0 5 (by omega)), World.cell?_setCell_other _ _ _ _ (ne0 4 (by omega)), World.cell?_setCell_other _ _ _ _ (ne0 3 (by omega)), World.cell?_setCell_other _ _ _ _ (ne0 2 (by omega)), World.cell?_setCell_other _ _ _ _ (ne0 1 (by omega))]
    obtain ⟨v, hv⟩ := h0; exact World.cell?_setCell_same _ _ _ hv
  · rw [World.cell?_setCell_other _ _ _ _ (ne 5 1 (by omega)), World.cell?_setCell_other _ _ _ _ (ne 4 1 (by omega)), World.cell?_setCell_other _ _ _ _ (ne 3 1 (by omega)), World.cell?_setCell_other _ _ _ _ (ne 2 1 (by omega))]
    obtain ⟨v, hv⟩ := set_has _ ⟨b, o, none⟩ _ (.int .i64 x.no) h1; exact World.cell?_setCell_same _ _ _ hv
  · rw [World.cell?_setCell_other _ _ _ _ (ne 5 2 (by omega)), World.cell?_setCell_other _ _ _ _ (ne 4 2 (by omega)), World.cell?_setCell_other _ _ _ _ (ne 3 2 (by omega))]
    obtain ⟨v, hv⟩ := set_has _ ⟨b, o + 1, none⟩ _ rv (set_has _ ⟨b, o, none⟩ _ (.int .i64 x.no) h2); exact World.cell?_setCell_same _ _ _ hv
  · rw [World.cell?_setCell_other _ _ _ _ (ne 5 3 (by omega)), World.cell?_setCell_other _ _ _ _ (ne 4 3 (by omega))]
    obtain ⟨v, hv⟩ := set_has _ ⟨b, o + 2, none⟩ _ ev (set_has _ ⟨b, o + 1, none⟩ _ rv (set_has _ ⟨b, o, none⟩ _ (.int .i64 x.no) h3)); exact World.cell?_setCell_same _ _ _ hv
  · rw [World.cell?_setCell_other _ _ _ _ (ne 5 4 (by omega))]
    obtain ⟨v, hv⟩ := set_has _ ⟨b, o + 3, none⟩ _ (.int .i64 x.net) (set_has _ ⟨b, o + 2, none⟩ _ ev (set_has _ ⟨b, o + 1, none⟩ _ rv (set_has _ ⟨b, o, none⟩ _ (.int .i64 x.no) h4))); exact World.cell?_setCell_same _ _ _ hv
  · obtain ⟨v, hv⟩ := set_has _ ⟨b, o + 4, none⟩ _ (.int .i64 x.tax) (set_has _ ⟨b, o + 3, none⟩ _ (.int .i64 x.net) (set_has _ ⟨b, o + 2, none⟩ _ ev (set_has _ ⟨b, o + 1, none⟩ _ rv (set_has _ ⟨b, o, none⟩ _ (.int .i64 x.no) h5)))); exact World.cell?_setCell_same _ _ _ hv

/-- block b, of the call's own, has room for n invoices and holds the first ones, l -/
def IP (W : World) (b n : Nat) (l : List I) : Prop :=
  b < W.heap.size ∧ (∀ j, W.frozen? ⟨b, j, none⟩ = false) ∧ (∀ j, j < n * 6 → ∃ v, W.cell? ⟨b, j, none⟩ = some v) ∧ ∀ i, i < l.length → ∃ rv ev, I6 W b (i * 6) (l.getD i I0) rv ev ∧ RN (b + 1) W rv (l.getD i I0).rows ∧ EN (b + 1) W ev (l.getD i I0).evs
theorem IP.kept {W W' : World} {b n : Nat} {l : List I} (h : IP W b n l) (hb : Below W.heap.size W W') : IP W' b n l :=
  ⟨Nat.lt_of_lt_of_le h.1 hb.size, fun j => (hb.frozen (p := ⟨b, j, none⟩) h.1).trans (h.2.1 j), fun j hj => by
    obtain ⟨v, hv⟩ := h.2.2.1 j hj
    exact ⟨v, (hb.cell (p := ⟨b, j, none⟩) h.1).trans hv⟩, fun i hi => by
    obtain ⟨rv, ev, h6, hr, he⟩ := h.2.2.2 i hi
    exact ⟨rv, ev, h6.kept h.1 hb, hr.kept hb, he.kept hb⟩⟩
theorem IP.more {W : World} {b n : Nat} {l : List I} (h : IP W b n l) {k : Nat} (hk : k = l.length) (hn : k < n) (x : I) {rv ev : Value} (hr : RN (b + 1) W rv x.rows) (he : EN (b + 1) W ev x.evs) : IP (set6 W b (k * 6) x rv ev) b n (l ++ [x]) := by
  subst hk
  refine ⟨by simpa using h.1, fun j => by simpa [World.frozen?_setCell] using h.2.1 j, fun j hj => ?_, fun i hi => ?_⟩
  · exact set_has _ _ _ _ (set_has _ _ _ _ (set_has _ _ _ _ (set_has _ _ _ _ (set_has _ _ _ _ (set_has _ _ _ _ (h.2.2.1 j hj))))))
  · have low : ∀ {v : Value} {l : List R}, RN (b + 1) W v l → RN (b + 1) (set6 W b (l.length * 6) x rv ev) v l := fun h => rn_low (rn_low (rn_low (rn_low (rn_low (rn_low h (by omega)) (by omega)) (by omega)) (by omega)) (by omega)) (by omega)
    by_cases e : i = l.length
    · subst e
      have e1 : (l ++ [x]).getD l.length I0 = x := by simp [List.getD]
      rw [e1]
      refine ⟨rv, ev, set6_same _ _ _ _ _ _ (fun j hj => h.2.2.1 _ (by omega)), ?_, ?_⟩
      · exact rn_low (rn_low (rn_low (rn_low (rn_low (rn_low hr (by omega)) (by omega)) (by omega)) (by omega)) (by omega)) (by omega)
      · exact en_low (en_low (en_low (en_low (en_low (en_low he (by omega)) (by omega)) (by omega)) (by omega)) (by omega)) (by omega)
    · have hi' : i < l.length := by simp at hi; omega
      have e1 : (l ++ [x]).getD i I0 = l.getD i I0 := by simp [List.getD, List.getElem?_append_left hi']
      rw [e1]
      obtain ⟨rv', ev', ⟨g0, g1, g2, g3, g4, g5⟩, hr', he'⟩ := h.2.2.2 i hi'
      refine ⟨rv', ev', ⟨?_, ?_, ?_, ?_, ?_, ?_⟩, rn_low (rn_low (rn_low (rn_low (rn_low (rn_low hr' (by omega)) (by omega)) (by omega)) (by omega)) (by omega)) (by omega), en_low (en_low (en_low (en_low (en_low (en_low he' (by omega)) (by omega)) (by omega)) (by omega)) (by omega)) (by omega)⟩
      · rw [set6_other _ _ _ _ _ _ _ (by simp only; omega)]; exact g0
      · rw [set6_other _ _ _ _ _ _ _ (by simp only; omega)]; exact g1
      · rw [set6_other _ _ _ _ _ _ _ (by simp only; omega)]; exact g2
      · rw [set6_other _ _ _ _ _ _ _ (by simp only; omega)]; exact g3
      · rw [set6_other _ _ _ _ _ _ _ (by simp only; omega)]; exact g4
      · rw [set6_other _ _ _ _ _ _ _ (by simp only; omega)]; exact g5
theorem IP.ir {W : World} {b n : Nat} {l : List I} (h : IP W b n l) (c : Nat) : IR W (.slice (some ⟨b, 0, none⟩) l.length c) l :=
  .inr ⟨b, 0, c, rfl, h.1, fun i hi => by
    obtain ⟨rv, ev, h6, hr, he⟩ := h.2.2.2 i hi
    exact ⟨rv, ev, by rw [Nat.zero_add]; exact h6, hr.er, he.er⟩⟩

abbrev zeroI : Array Value := #[.int .i64 0, .slice none 0 0, .slice none 0 0, .int .i64 0, .int .i64 0, .int .i64 0]
theorem infoI : (Try.prog.info? 120).map (fun i => (i.zero, i.size, i.bytes)) = some (some (.agg zeroI), 6, 80) := by kernel_rfl

theorem makeI (n : Nat) (hn : n ≤ 1048576) (w : World) : (Instr.makeSlice 71 (.int .i64 (n : Int)) (.int .i64 (n : Int))).run Try.prog w = .ok (.slice (some ⟨w.heap.size, 0, none⟩) n n) (w.alloc (.cells (madeCells zeroI (n * 6)) 120)) := by
  obtain ⟨i, hi, h2⟩ := Option.map_eq_some_iff.1 infoI
  simp only [Prod.mk.injEq] at h2
  obtain ⟨hz, hs, hb⟩ := h2
  have := run_make (P := Try.prog) w 71 120 i _ Try.underlying71 hi hz .i64 .i64 n n (by omega) (by omega) (by rw [hb]; omega) (by omega)
  have e : (Value.agg zeroI).cells = zeroI := rfl
  rw [hs, e] at this
  simpa using this

theorem IP.made (w : World) (n : Nat) (t : TypeId) : IP (w.alloc (.cells (madeCells zeroI (n * 6)) t)) w.heap.size n [] := by
  have e1 := (MapKept.heap_alloc w (.cells (madeCells zeroI (n * 6)) t)).1
  refine ⟨by simp, fun j => ?_, fun j hj => ?_, fun i hi => by simp at hi⟩
  · simp only [World.frozen?]
    rw [e1]; simp
  · simp only [World.cell?]
    rw [e1]
    simp [madeCells, hj]

theorem rn_kept {B : Nat} {W W' : World} {v : Value} {l : List R} (h : RN B W v l) (hs : ∀ b, B ≤ b → b < W.heap.size → W'.heap[b]? = W.heap[b]?) (hz : W.heap.size ≤ W'.heap.size) : RN B W' v l := by
  rcases h with h | ⟨g, cap, rfl, ⟨h1, h2⟩, ⟨h3, h4⟩, h5⟩
  · exact .inl h
  · have e := hs g h1 h3
    exact .inr ⟨g, cap, rfl, ⟨h1, h2⟩, ⟨by omega, fun i hi => ⟨(World.cell?_of_block (w := W) e).trans (h4 i hi).1, (World.cell?_of_block (w := W) e).trans (h4 i hi).2.1, (World.cell?_of_block (w := W) e).trans (h4 i hi).2.2⟩⟩, fun j => (World.frozen?_of_block (w := W) e).trans (h5 j)⟩
theorem en_kept {B : Nat} {W W' : World} {v : Value} {l : List E} (h : EN B W v l) (hs : ∀ b, B ≤ b → b < W.heap.size → W'.heap[b]? = W.heap[b]?) (hz : W.heap.size ≤ W'.heap.size) : EN B W' v l := by
  rcases h with h | ⟨g, cap, rfl, ⟨h1, h2⟩, ⟨h3, h4⟩, h5⟩
  · exact .inl h
  · have e := hs g h1 h3
    exact .inr ⟨g, cap, rfl, ⟨h1, h2⟩, ⟨by omega, fun i hi => ⟨(World.cell?_of_block (w := W) e).trans (h4 i hi).1, (World.cell?_of_block (w := W) e).trans (h4 i hi).2.1, (World.cell?_of_block (w := W) e).trans (h4 i hi).2.2⟩⟩, fun j => (World.frozen?_of_block (w := W) e).trans (h5 j)⟩
theorem rn_slice {B : Nat} {W : World} {v : Value} {l : List R} (h : RN B W v l) : ∃ a c, v = .slice a l.length c := h.er.slice
theorem en_slice {B : Nat} {W : World} {v : Value} {l : List E} (h : EN B W v l) : ∃ a c, v = .slice a l.length c := h.er.slice

set_option maxHeartbeats 1600000 in
theorem toInv (x : I) (rv ev : Value) (w : World) (h : IW w rv ev x) (hf : FewI x) :
    Calls Try.prog 109 #[iV x rv ev] w fun e w' => ∃ rv' ev', e = .returned (iV x rv' ev') ∧ RN w.heap.size w' rv' x.rows ∧ EN w.heap.size w' ev' x.evs ∧ Below w.heap.size w w' := by
  have HW := hide h
  have HF := hide hf
  clear h hf
  obtain ⟨no, rows, evs, net, tax, credit⟩ := x
  go_enter Try.func109, Try.ntmps109
  go_wp2_with (fail)
  refine (BRow.toRows rv rows _ ((unhide HW).1.kept (Boxes.below3 _ _ _ _)) (unhide HF).1).mono ?_
  rintro x w1 ⟨rv', rfl, hr', hb1⟩
  obtain ⟨a1, a2, a3, hB, hz⟩ := Boxes.box3 hb1
  have HE := hide ((unhide HW).2.kept hB)
  have HR : Hid (RN (w.heap.size + 3) w1 rv' rows) := hide (hr'.low (by simp))
  obtain ⟨ra, rc, rfl⟩ := rn_slice hr'
  have HB := hide hB
  have A2 := hide a2
  have A3 := hide a3
  have c2 := (a1 2 _ rfl).1
  have c3 := (a1 3 _ rfl).1
  have c4 := (a1 4 _ rfl).1
  have c5 := (a1 5 _ rfl).1
  have A1 := hide a1
  obtain ⟨o1, f1⟩ := a3 1 _ rfl
  clear hb1 hB hr' a1 a2 a3
  go_wp2_with (fail)
  refine (Evs.toEvs ev evs _ ((unhide HW).2.kept ((unhide HB).setCell (p := ⟨w.heap.size + 1 + 1, 1, none⟩) (by simp; omega) _)) (unhide HF).2).mono ?_
  rintro x w2 ⟨ev', rfl, he', hb2⟩
  have HB2 : Hid (Below w.heap.size w w2) := hide (((unhide HB).setCell (p := ⟨w.heap.size + 1 + 1, 1, none⟩) (by simp; omega) _).trans (hb2.mono (by simp; omega)))
  have hz2 : w.heap.size + 3 ≤ w2.heap.size := by have := hb2.size; simp at this; omega
  have HR2 : Hid (RN (w.heap.size + 3) w2 (.slice ra rows.length rc) rows) := hide (rn_kept (rn_low (unhide HR) (by omega)) (fun b h1 h2 => hb2.block b h2) hb2.size)
  have HE2 : Hid (EN (w.heap.size + 3) w2 ev' evs) := hide (he'.low (by simp; omega))
  have a1 := (Boxes.At.other (unhide A1) (g := w.heap.size + 1 + 1) (k := 1) (.slice ra rows.length rc) (by omega)).below hb2 (by simp; omega)
  have a2 := (Boxes.At.other (unhide A2) (g := w.heap.size + 1 + 1) (k := 1) (.slice ra rows.length rc) (by omega)).below hb2 (by simp; omega)
  have a3 := (Boxes.At.set (unhide A3) 1 (.slice ra rows.length rc)).below hb2 (by simp; omega)
  obtain ⟨ea, ec, rfl⟩ := en_slice he'
  clear c2 c3 c4 c5 o1 f1 hb2 he' HB HR HE A1 A2 A3 HW HF
  have c3 := (a1 3 _ rfl).1
  have c4 := (a1 4 _ rfl).1
  have c5 := (a1 5 _ rfl).1
  obtain ⟨o0, f0⟩ := a3 0 _ rfl
  obtain ⟨o1, f1⟩ := a3 1 _ rfl
  obtain ⟨o2, f2⟩ := a3 2 _ rfl
  obtain ⟨o3, f3⟩ := a3 3 _ rfl
  obtain ⟨o4, f4⟩ := a3 4 _ rfl
  obtain ⟨o5, f5⟩ := a3 5 _ rfl
  obtain ⟨p0, q0⟩ := a2 0 _ rfl
  obtain ⟨p1, q1⟩ := a2 1 _ rfl
  obtain ⟨p2, q2⟩ := a2 2 _ rfl
  obtain ⟨p3, q3⟩ := a2 3 _ rfl
  obtain ⟨p4, q4⟩ := a2 4 _ rfl
  obtain ⟨p5, q5⟩ := a2 5 _ rfl
  clear a1 a2 a3
  go_wp2_with (fail)
  refine bodyPost_ret (v := .agg #[.int .i64 no, .slice ra rows.length rc, .slice ea evs.length ec, .int .i64 net, .int .i64 tax, .int .i64 credit]) (by simp [results, Try.results109, go_sem, p0, p1, p2, p3, p4, p5]) rfl ⟨_, _, rfl, ?_, ?_, ?_⟩
  · refine RN.low (B := w.heap.size + 3) ?_ (by omega)
    iterate 10 refine rn_low ?_ (by omega)
    exact unhide HR2
  · refine EN.low (B := w.heap.size + 3) ?_ (by omega)
    iterate 10 refine en_low ?_ (by omega)
    exact unhide HE2
  · iterate 10 refine Below.setCell ?_ (by simp; try omega) _
    exact unhide HB2

/-- the slice v holds the invoices l in blocks of its own, none below B -/
def IN (B : Nat) (W : World) (v : Value) (l : List I) : Prop :=
  (l = [] ∧ ∃ a c, v = .slice a 0 c) ∨ ∃ b n cap, v = .slice (some ⟨b, 0, none⟩) l.length cap ∧ B ≤ b ∧ IP W b n l
theorem IN.ir {B : Nat} {W : World} {v : Value} {l : List I} (h : IN B W v l) : IR W v l := by
  rcases h with h | ⟨b, n, cap, rfl, _, hc⟩
  · exact .inl h
  · exact hc.ir cap
theorem IN.low {B B' : Nat} {W : World} {v : Value} {l : List I} (h : IN B W v l) (hb : B' ≤ B) : IN B' W v l := by
  rcases h with h | ⟨b, n, cap, rfl, h1, hc⟩
  · exact .inl h
  · exact .inr ⟨b, n, cap, rfl, by omega, hc⟩
theorem IP.off {W : World} {b n g o : Nat} {l : List I} (h : IP W b n l) (u : Value) (hg : g < b) : IP (W.setCell ⟨g, o, none⟩ u) b n l := by
  have e : ∀ j, (W.setCell ⟨g, o, none⟩ u).cell? ⟨b, j, none⟩ = W.cell? ⟨b, j, none⟩ := fun j => World.cell?_setCell_other _ _ _ _ (by intro he; simp only [Addr.mk.injEq] at he; omega)
  refine ⟨by simpa using h.1, fun j => by simpa [World.frozen?_setCell] using h.2.1 j, fun j hj => by rw [e]; exact h.2.2.1 j hj, fun i hi => ?_⟩
  obtain ⟨rv, ev, ⟨g0, g1, g2, g3, g4, g5⟩, hr, he⟩ := h.2.2.2 i hi
  exact ⟨rv, ev, ⟨(e _).trans g0, (e _).trans g1, (e _).trans g2, (e _).trans g3, (e _).trans g4, (e _).trans g5⟩, rn_low hr (by omega), en_low he (by omega)⟩
theorem in_low {B b o : Nat} {W : World} {v u : Value} {l : List I} (h : IN B W v l) (hb : b < B) : IN B (W.setCell ⟨b, o, none⟩ u) v l := by
  rcases h with h | ⟨g, n, cap, rfl, h1, hc⟩
  · exact .inl h
  · exact .inr ⟨g, n, cap, rfl, h1, hc.off u (by omega)⟩
theorem in_slice {B : Nat} {W : World} {v : Value} {l : List I} (h : IN B W v l) : ∃ a c, v = .slice a l.length c := h.ir.slice

set_option maxHeartbeats 800000 in
theorem toInvs (v : Value) (l : List I) (w : World) (h : IR w v l) (hf : FewIs l) :
    Calls Try.prog 78 #[v] w fun e w' => ∃ v', e = .returned v' ∧ IN w.heap.size w' v' l ∧ Below w.heap.size w w' := by
  obtain ⟨hl, hf⟩ := hf
  have HF := hide hf
  clear hf
  have hmk := makeI l.length hl
  rcases h with ⟨rfl, a, c, rfl⟩ | ⟨b, o, cap, rfl, h2⟩
  · clear hmk hl
    have hmk0 : ∀ w : World, (Instr.makeSlice 71 (.int .i64 0) (.int .i64 0)).run Try.prog w = .ok (.slice (some ⟨w.heap.size, 0, none⟩) 0 0) (w.alloc (.cells #[] 120)) := fun w => by kernel_rfl
    go_enter Try.func78, Try.ntmps78
    go_wp2
    refine wp_loop_rounds 1 ?_
    rw [rounds_succ]
    go_wp2
    go_ret
    exact ⟨_, rfl, .inl ⟨rfl, _, _, rfl⟩, (Below.refl _ _).alloc (Nat.le_refl _) _⟩
  · have H3 := hide h2; clear h2
    have hbs := (unhide H3).1
    go_enter Try.func78, Try.ntmps78
    go_wp2
    go_loopw [4] (fun i wr => ∃ k : Nat, k ≤ l.length ∧ i = .int .i64 k ∧ Hid (IP wr w.heap.size l.length (l.take k)) ∧ Below w.heap.size w wr) (fun i _ => l.length - (intOf i).toNat)
    case atStart => exact ⟨0, Nat.zero_le _, rfl, by show IP _ _ _ _; simpa using IP.made w l.length _, (Below.refl _ _).alloc (Nat.le_refl _) _⟩
    case round =>
      obtain ⟨k, hk, rfl, hd, hb⟩ := hrel
      by_cases hlt : k < l.length
      · obtain ⟨rv, ev, ⟨c0, c1, c2, c3, c4, c5⟩, hw⟩ := ((unhide H3).kept hb).2 k hlt
        have HW := hide hw
        have HFk : Hid (FewI (l.getD k I0)) := hide (unhide HF _ (by simp [List.getD, hlt]))
        have HM : Hid (∀ w1 rv' ev', IP w1 w.heap.size l.length (l.take k) → RN (w.heap.size + 1) w1 rv' (l.getD k I0).rows → EN (w.heap.size + 1) w1 ev' (l.getD k I0).evs → IP (set6 w1 w.heap.size (k * 6) (l.getD k I0) rv' ev') w.heap.size l.length (l.take (k + 1))) := hide (fun w1 rv' ev' h1 h2 h3 => by
          have e : l.take (k + 1) = l.take k ++ [l.getD k I0] := by rw [List.take_add_one, List.getElem?_eq_getElem hlt]; simp [List.getD, hlt]
          rw [e]
          exact h1.more (by simp; omega) hlt _ h2 h3)
        have HK : Hid (∀ w1, Below wr.heap.size wr w1 → IP w1 w.heap.size l.length (l.take k)) := hide (fun w1 h1 => (unhide hd).kept h1)
        have hws : w.heap.size < wr.heap.size := (unhide hd).1
        have HB := hide hb
        clear hb hd hw
        generalize l.getD k I0 = x at *
        obtain ⟨no, rows, evs, net, tax, credit⟩ := x
        go_wp2_with (fail)
        refine (toInv ⟨no, rows, evs, net, tax, credit⟩ rv ev wr (unhide HW) (unhide HFk)).mono ?_
        rintro e w1 ⟨rv', ev', rfl, hr', he', hb1⟩
        have hip := unhide HK w1 hb1
        have HX := hide (unhide HM w1 rv' ev' hip (hr'.low (by omega)) (he'.low (by omega)))
        obtain ⟨_, hfz, hcs, _⟩ := hip
        obtain ⟨d0, e0⟩ := hcs (k * 6) (by omega)
        obtain ⟨d1, e1⟩ := hcs (k * 6 + 1) (by omega)
        obtain ⟨d2, e2⟩ := hcs (k * 6 + 2) (by omega)
        obtain ⟨d3, e3⟩ := hcs (k * 6 + 3) (by omega)
        obtain ⟨d4, e4⟩ := hcs (k * 6 + 4) (by omega)
        obtain ⟨d5, e5⟩ := hcs (k * 6 + 5) (by omega)
        have f0 := hfz (k * 6)
        have f1 := hfz (k * 6 + 1)
        have f2 := hfz (k * 6 + 2)
        have f3 := hfz (k * 6 + 3)
        have f4 := hfz (k * 6 + 4)
        have f5 := hfz (k * 6 + 5)
        obtain ⟨ra, rc, rfl⟩ := rn_slice hr'
        obtain ⟨ea, ec, rfl⟩ := en_slice he'
        have HB1 : Hid (Below w.heap.size w w1) := hide (below_trans (unhide HB) hb1)
        clear hb1 HB hcs hfz HK HM hr' he'
        simp only at HX
        go_wp2
        exact ⟨⟨k + 1, by omega, by go_num, HX, (((((((unhide HB1).setCell (Nat.le_refl _) _).setCell (Nat.le_refl _) _).setCell (Nat.le_refl _) _).setCell (Nat.le_refl _) _).setCell (Nat.le_refl _) _).setCell (Nat.le_refl _) _)⟩, by simp [intOf]; omega⟩
      · obtain rfl : k = l.length := by omega
        go_wp2
        go_ret
        refine ⟨_, rfl, ?_, hb⟩
        have := unhide hd
        rw [List.take_length] at this
        exact .inr ⟨w.heap.size, l.length, _, rfl, Nat.le_refl _, this⟩
end Go.Proofs.Ytdjjgoeinkbmjaa.Bills
