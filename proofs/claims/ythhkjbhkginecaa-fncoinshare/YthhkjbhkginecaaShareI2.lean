/-
  CoinShare, the program's: what it answers.
-/
import Derived.Test.YthhkjbhkginecaaShareI
namespace Go.Proofs.Ythhkjbhkginecaa.Share
set_option linter.unusedVariables false
open Go.RowKit Ints Go.Sort Go.Shelf

theorem makeSh (n : Nat) (hn : n ≤ 16) (w : World) : (Instr.makeSlice 55 (.int .i64 (n : Int)) (.int .i64 (n : Int))).run Try.prog w = .ok (.slice (some ⟨w.heap.size, 0, none⟩) n n) (w.alloc (.cells (madeCells #[.int .i64 0, .int .i64 0, .int .i64 0] (n * 3)) 61)) := by
  obtain ⟨i, hi, h2⟩ := Option.map_eq_some_iff.1 infoSh
  simp only [Prod.mk.injEq] at h2
  obtain ⟨hz, hs, hb⟩ := h2
  have := run_make (P := Try.prog) w 55 61 i _ Try.underlying55 hi hz .i64 .i64 n n (by omega) (by omega) (by rw [hb]; omega) (by omega)
  have e : (Value.agg #[.int .i64 0, .int .i64 0, .int .i64 0]).cells = #[.int .i64 0, .int .i64 0, .int .i64 0] := rfl
  rw [hs, e] at this
  simpa using this

/-- the row of shares in block b: f tells each -/
def SC (W : World) (b n : Nat) (f : Nat → Sh) : Prop := b < W.heap.size ∧ ∀ i, i < n → (W.cell? ⟨b, i * 3, none⟩ = some (.int .i64 (f i).1) ∧ W.cell? ⟨b, i * 3 + 1, none⟩ = some (.int .i64 (f i).2.1) ∧ W.cell? ⟨b, i * 3 + 2, none⟩ = some (.int .i64 (f i).2.2)) ∧ W.frozen? ⟨b, i * 3, none⟩ = false ∧ W.frozen? ⟨b, i * 3 + 1, none⟩ = false ∧ W.frozen? ⟨b, i * 3 + 2, none⟩ = false

theorem SC.kept {W W' : World} {b n : Nat} {f : Nat → Sh} {r : Option Nat} (h : SC W b n f) (hg : W.grownBy W' r) (hne : some b ≠ r) : SC W' b n f := by
  refine ⟨Nat.lt_of_lt_of_le h.1 hg.size, fun i hi => ?_⟩
  have := h.2 i hi
  rw [hg.cell_far _ h.1 hne, hg.cell_far _ h.1 hne, hg.cell_far _ h.1 hne, hg.frozen_far _ h.1 hne, hg.frozen_far _ h.1 hne, hg.frozen_far _ h.1 hne]
  exact this

theorem SC.holds {W : World} {b n : Nat} {f : Nat → Sh} (h : SC W b n f) : HoldsK encSh 3 W b 0 ((List.range n).map f).toArray := by
  intro j hj
  have hj' : j < n * 3 := by simpa using hj
  obtain ⟨⟨c0, c1, c2⟩, f0, f1, f2⟩ := h.2 (j / 3) (by omega)
  rw [get_flatK _ _ _ _ (by simpa using hj'), getBang (x := f (j / 3)) (by rw [List.getElem?_map, List.getElem?_range (by omega)]; rfl), Nat.zero_add]
  rcases (by omega : j % 3 = 0 ∨ j % 3 = 1 ∨ j % 3 = 2) with e | e | e
  · have e2 : j / 3 * 3 = j := by omega
    rw [e2] at c0 f0
    rw [e]
    exact ⟨c0, f0⟩
  · have e2 : j / 3 * 3 + 1 = j := by omega
    rw [e2] at c1 f1
    rw [e]
    exact ⟨c1, f1⟩
  · have e2 : j / 3 * 3 + 2 = j := by omega
    rw [e2] at c2 f2
    rw [e]
    exact ⟨c2, f2⟩

theorem SC.set {W : World} {b n : Nat} {f : Nat → Sh} (h : SC W b n f) {k : Nat} (hk : k < n) (x : Sh) :
    SC (((W.setCell ⟨b, k * 3, none⟩ (.int .i64 x.1)).setCell ⟨b, k * 3 + 1, none⟩ (.int .i64 x.2.1)).setCell ⟨b, k * 3 + 2, none⟩ (.int .i64 x.2.2)) b n (fun i => if i = k then x else f i) := by
  refine ⟨by simpa using h.1, fun i hi => ?_⟩
  obtain ⟨⟨c0, c1, c2⟩, f0, f1, f2⟩ := h.2 i hi
  simp only [World.frozen?_setCell]
  refine ⟨?_, f0, f1, f2⟩
  by_cases e : i = k
  · subst e
    simp only [if_true]
    refine ⟨?_, ?_, ?_⟩
    · rw [World.cell?_setCell_other _ _ _ _ (by simp), World.cell?_setCell_other _ _ _ _ (by simp)]
      exact World.cell?_setCell_same _ _ _ c0
    · rw [World.cell?_setCell_other _ _ _ _ (by simp)]
      exact World.cell?_setCell_same _ _ _ (by rw [World.cell?_setCell_other _ _ _ _ (by simp)]; exact c1)
    · exact World.cell?_setCell_same _ _ _ (by rw [World.cell?_setCell_other _ _ _ _ (by simp), World.cell?_setCell_other _ _ _ _ (by simp)]; exact c2)
  · simp only [if_neg e]
    refine ⟨?_, ?_, ?_⟩
    · rw [World.cell?_setCell_other _ _ _ _ (by simp <;> omega), World.cell?_setCell_other _ _ _ _ (by simp <;> omega), World.cell?_setCell_other _ _ _ _ (by simp <;> omega)]; exact c0
    · rw [World.cell?_setCell_other _ _ _ _ (by simp <;> omega), World.cell?_setCell_other _ _ _ _ (by simp <;> omega), World.cell?_setCell_other _ _ _ _ (by simp <;> omega)]; exact c1
    · rw [World.cell?_setCell_other _ _ _ _ (by simp <;> omega), World.cell?_setCell_other _ _ _ _ (by simp <;> omega), World.cell?_setCell_other _ _ _ _ (by simp <;> omega)]; exact c2

theorem SC.made (w : World) (n : Nat) (t : TypeId) : SC (w.alloc (.cells (madeCells #[.int .i64 0, .int .i64 0, .int .i64 0] (n * 3)) t)) w.heap.size n (fun _ => (0, 0, 0)) := by
  have e1 := (MapKept.heap_alloc w (.cells (madeCells #[.int .i64 0, .int .i64 0, .int .i64 0] (n * 3)) t)).1
  refine ⟨by simp, fun i hi => ?_⟩
  have m0 : i * 3 % 3 = 0 := by omega
  have m1 : (i * 3 + 1) % 3 = 1 := by omega
  have m2 : (i * 3 + 2) % 3 = 2 := by omega
  have l0 : i * 3 < n * 3 := by omega
  have l1 : i * 3 + 1 < n * 3 := by omega
  have l2 : i * 3 + 2 < n * 3 := by omega
  simp only [World.cell?, World.frozen?]
  rw [e1]
  simp [madeCells, m0, m1, m2, l0, l1, l2]

theorem sc_step {W : World} {b n k : Nat} {P R : List Int} (h : SC W b n (fun i => if i = k then ((k : Int), P.getD k 0, R.getD k 0) else if i < k then ((i : Int), P.getD i 0, R.getD i 0) else (0, 0, 0))) : SC W b n (fun i => if i < k + 1 then ((i : Int), P.getD i 0, R.getD i 0) else (0, 0, 0)) := by
  have e : (fun (i : Nat) => if i = k then ((k : Int), P.getD k 0, R.getD k 0) else if i < k then ((i : Int), P.getD i 0, R.getD i 0) else (0, 0, 0)) = (fun (i : Nat) => if i < k + 1 then ((i : Int), P.getD i 0, R.getD i 0) else (0, 0, 0)) := by
    funext i
    by_cases e1 : i = k
    · subst e1; rw [if_pos rfl, if_pos (by omega)]
    · by_cases e2 : i < k
      · rw [if_neg e1, if_pos e2, if_pos (by omega)]
      · rw [if_neg e1, if_neg e2, if_neg (by omega)]
  rw [e] at h
  exact h
theorem sc_all {W : World} {b n : Nat} {P R : List Int} (h : SC W b n (fun i => if i < n then ((i : Int), P.getD i 0, R.getD i 0) else (0, 0, 0))) : HoldsK encSh 3 W b 0 (shL P R n).toArray := by
  have h1 := h.holds
  have e : (List.range n).map (fun (i : Nat) => if i < n then ((i : Int), P.getD i 0, R.getD i 0) else (0, 0, 0)) = shL P R n := by
    unfold shL
    apply List.map_congr_left
    intro i hi
    rw [if_pos (List.mem_range.1 hi)]
  rw [e] at h1
  exact h1

set_option maxHeartbeats 1600000 in
theorem shareI_yes (v : Value) (ws : List Int) (T : Int) (w : World) (h : IR w v ws) (hg : wgtB ws = true) (hT : 0 ≤ T) (hT' : T ≤ 1000000000000000) :
    Calls Try.prog 9 #[.int .i64 T, v] w fun e w' => ∃ g c, e = .returned (.tuple #[.slice (some ⟨g, 0, none⟩) ws.length c, .bool true]) ∧ Cells w' g 0 (shareV T ws) ∧ w.heap.size ≤ g ∧ Below w.heap.size w w' := by
  have hw := wgtI v ws w h
  obtain ⟨g1, g2, g3, g4, g5, g6⟩ := wgt_good hg
  have hmk := makeSh ws.length g1
  rw [g5, hg] at hw
  rcases h with ⟨rfl, rfl⟩ | ⟨b, o, cap, rfl, _, hc⟩
  · simp at g6
  have hbs := hc.1
  have HC := hide hc; clear hc
  have PB : Hid (∀ j, j < ws.length → 0 ≤ (pts T ws).getD j 0 ∧ (pts T ws).getD j 0 ≤ 1000000000000000) := fun j hj => by
    have := g2 j hj
    have := ptBd hT hT' this.1 this.2.1 this.2.2 g3 g4
    rw [pts_at T ws j hj]; unfold ptV; omega
  have PA : Hid (∀ k, k < ws.length → (pts T ws).getD k 0 = ptV T ws.sum (ws.getD k 0)) := fun k hk => pts_at T ws k hk
  have RA : Hid (∀ k, k < ws.length → (rss T ws).getD k 0 = rsV T ws.sum (ws.getD k 0)) := fun k hk => rss_at T ws k hk
  have PL := hide (pts_len T ws)
  have RL := hide (rss_len T ws)
  have G2 := hide g2; clear g2 hg g5
  generalize hS : ws.sum = S at *
  have HS := hide hS; clear hS
  have FIN : Hid (∀ i, finV T ws i = (pts T ws).getD i 0 + if (cnt (rss T ws) i ws.length : Int) < T - (pts T ws).sum then 1 else 0) := fun i => rfl
  have SHV : Hid (shareV T ws = (List.range ws.length).map (finV T ws)) := rfl
  generalize pts T ws = P at *
  generalize rss T ws = R at *
  generalize finV T ws = F at *
  generalize shareV T ws = V at *
  go_enter Try.func9, Try.ntmps9
  go_wp2_with (first | (go_at_call 29; refine hw.mono ?_; rintro e w' ⟨rfl, rfl⟩))
  clear hw hmk
  go_loopw [34] (fun i wr => ∃ k : Nat, k ≤ ws.length ∧ i = .int .i64 k ∧ Hid (SC wr w'.heap.size ws.length (fun i => if i < k then ((i : Int), P.getD i 0, R.getD i 0) else (0, 0, 0))) ∧ Below w'.heap.size w' wr) (fun i _ => ws.length - (intOf i).toNat)
  case atStart => exact ⟨0, Nat.zero_le _, rfl, SC.made w' ws.length _, (Below.refl _ _).alloc (Nat.le_refl _) _⟩
  case round =>
    obtain ⟨k, hk, rfl, D1, hb⟩ := hrel
    have hsb := sum_bd' P 1000000000000000 k (fun j hj => unhide PB j (by omega)) (by have := unhide PL; omega)
    by_cases hlt : k < ws.length
    · have hx := ((unhide HC).2 k hlt).1
      have hx' : wr.cell? ⟨b, o + k, none⟩ = some (.int .i64 (ws.getD k 0)) := by rw [hb.cell (p := ⟨b, o + k, none⟩) hbs]; exact hx
      have hG := unhide G2 k hlt
      have hdv := divD T (ws.getD k 0) S wr hT hT' hG.1 hG.2.1 hG.2.2 g3 g4
      rw [← unhide PA k hlt, ← unhide RA k hlt] at hdv
      have hPb := unhide PB k hlt
      have HDV := hide hdv
      obtain ⟨⟨c0, c1, c2⟩, f0, f1, f2⟩ := (unhide D1).2 k hlt
      have ek : ¬ k < k := by omega
      simp only [if_neg ek] at c0 c1 c2
      have DS := hide ((unhide D1).set hlt ((k : Int), P.getD k 0, R.getD k 0))
      have DE : Hid (∀ W, SC W w'.heap.size ws.length (fun i => if i = k then ((k : Int), P.getD k 0, R.getD k 0) else if i < k then ((i : Int), P.getD i 0, R.getD i 0) else (0, 0, 0)) → SC W w'.heap.size ws.length (fun i => if i < k + 1 then ((i : Int), P.getD i 0, R.getD i 0) else (0, 0, 0))) := fun W hW => sc_step hW
      clear hdv hx
      generalize P.getD k 0 = p at *
      generalize R.getD k 0 = r at *
      generalize ws.getD k 0 = x at *
      go_wp2_with (first | (go_at_call 30; refine (unhide HDV).mono ?_; rintro e w2 ⟨rfl, q, rfl⟩))
      exact ⟨⟨k + 1, by omega, by go_num, unhide DE _ (unhide DS), (((show RowKit.Below w'.heap.size w' (World.drewN _ q) from ⟨hb.os, hb.tape, hb.output, hb.size, hb.block⟩).setCell (Nat.le_refl _) _).setCell (Nat.le_refl _) _).setCell (Nat.le_refl _) _⟩, by simp [intOf]; omega⟩
    · obtain rfl : k = ws.length := by omega
      have eP : P.take ws.length = P := List.take_of_length_le (by have := unhide PL; omega)
      rw [eP] at hsb
      have hbk := (unhide D1).1
      have hdl := deal w'.heap.size ws.length ws.length P R T (T - P.sum) wr (sc_all (unhide D1)) hbk g1 g6 hT hT' (unhide PL) rfl (by omega) (unhide PB) F (unhide FIN)
      rw [← unhide SHV] at hdl
      clear FIN eP hsb
      go_wp2_with (first | (go_at_call 32; refine hdl.mono ?_; rintro e w2 ⟨g, rfl, hc, hge, hgr⟩; clear hdl))
      go_ret2
      exact ⟨g, _, rfl, hc, by omega, below_gr hb hgr (by omega) (fun q hq => by cases hq; exact Nat.le_refl _)⟩
end Go.Proofs.Ythhkjbhkginecaa.Share
