/-
  impl.ChainHeads: slices.Collect and slices.AppendSeq (at ints) over what headsOf hands out.
-/
import Derived.Test.YtgaflnkefjmblaaHeadI
import Derived.Test.YtgaflnkefjmblaaAppK
import Derived.RangeFuncBox
namespace Go.Proofs.Ytgaflnkefjmblaa.Chain
set_option linter.unusedVariables false
open Go.RowKit Go.Shelf
open Txt (S0 TC TR)
open Ints (vals OwnN wpListIn_appN)

attribute [local go_sem] Oper.semAt_some

set_option maxRecDepth 100000 in
set_option maxHeartbeats 2000000 in
theorem appSeqI (v : Value) (l : List ByteArray) (Bm : Nat) (w : World) (hl : l.length ≤ maxLen) (hs : ∀ u ∈ l, u.size ≤ 100000000) (hBm : Bm < w.heap.size) (hc : w.cell? ⟨Bm, 0, none⟩ = some v) (hT : TR w v l) :
    CallsIn Fence.wide 5 Try.prog 44 #[.slice none 0 0, .func (.func 45) #[] #[.pointer (some ⟨Bm, 0, none⟩)]] w fun e w' =>
      ∃ v', e = .returned v' ∧ OwnN w' w.heap.size v' (headsF l) ∧ Below w.heap.size w w' := by
  have HS := hide hs
  have HT := hide hT
  clear hs hT
  refine callsIn_of_wp_marks Try.func44 rfl trivial ?_ rfl
  simp only [Try.ntmps44, List.size_toArray, List.length_cons, List.length_nil, Nat.reduceAdd, Nat.reduceSub, Array.replicate_succ, Array.replicate_zero, List.push_toArray, List.append_toArray, List.nil_append, List.cons_append]
  gi_wp2_with (fail)
  have b0 := Boxed.new w 28 (.slice none 0 0)
  obtain ⟨W0, hW0⟩ : ∃ W0, w.alloc (.cells #[.slice none 0 0] 28) = W0 := ⟨_, rfl⟩
  rw [hW0] at b0
  have hB0 : Below w.heap.size w W0 := by rw [← hW0]; exact (Below.refl _ _).alloc (Nat.le_refl _) _
  have hsz : W0.heap.size = w.heap.size + 1 := by rw [← hW0]; simp
  have c0 : W0.cell? ⟨Bm, 0, none⟩ = some v := (hB0.cell (p := ⟨Bm, 0, none⟩) hBm).trans hc
  have HTS : Hid (TS (fun j => j < w.heap.size) W0 v l) := by
    rcases unhide HT with h | ⟨b, o, cap, he, h⟩
    · exact .inl h
    · exact .inr ⟨b, o, cap, he, h.1, h.kept hB0⟩
  have HB0 := hide b0
  rw [hW0]
  clear hW0 hc b0 HT
  refine wpIn_rangeFunc_ownH rfl (by omega) (gf := 45) (lb := #[.pointer (some ⟨Bm, 0, none⟩)]) rfl trivial (enters_of Try.func45 (by kernel_rfl) rfl)
    (heads_stops 4 (by omega) Bm (fun j => j < w.heap.size) _ l hl (unhide HS) W0 hBm (fun j hj => by omega) c0 (unhide HTS)) KpS.trans (KpS.put (n := W0.heap.size) (fun j hj => by omega)) (Below.refl _ _) (fun _ => rfl)
    (fun pre W => (∃ u, Boxed W w.heap.size 28 u ∧ W.ownsRow w.heap.size 3 1 u pre.length (vals pre) ∧ True) ∧ Below w.heap.size w W)
    (fun c pre W => False)
    (OwnFrom.and ((holdsRow_own w.heap.size w.heap.size 28 3 1 (fun pre : List Int => pre.length) (fun pre => vals pre) (fun _ _ => True)).from _) (ownFrom_below (Nat.le_refl _) (by omega)))
    (fun c => fun _ _ _ _ h _ _ => h)
    ⟨⟨_, unhide HB0, ⟨rfl, .inl ⟨rfl, rfl⟩⟩, trivial⟩, hB0⟩
    (fun x a' W => a' = { tmps := #[.slice none 0 0, .func (.func 45) #[] #[.pointer (some ⟨Bm, 0, none⟩)], .pointer (some ⟨w.heap.size, 0, none⟩), undef, .slice none 0 0, .int .i64 x, .func (.func 45) #[] #[.pointer (some ⟨Bm, 0, none⟩)], .int .i64 x, undef, undef, undef, undef, undef], defers := [] })
    (fun x a' => Own.from (fun _ A B row hs hg hr => hs) _)
    ?assign ?body ?done ?stop
  case assign =>
    rintro lp pre x W K hI hK
    have HK := hide hK
    have HI := hide hI
    clear hK hI
    gi_wp2
    exact unhide HK _ _ ((KeepsOthers.refl _).from _) ⟨rfl, rfl, rfl, Nat.le_refl _, fun _ _ => rfl⟩ (unhide HI) rfl
  case body =>
    rintro lp pre x a' W hlp hloop ⟨⟨u, hu, hrow, _⟩, hB⟩ rfl hlen
    have hform : ∃ ao k, u = .slice ao pre.length k := by
      rcases hrow.2 with ⟨rfl, h0⟩ | ⟨g, cap, cur, rfl, _⟩
      · exact ⟨none, 0, by rw [h0]⟩
      · exact ⟨_, _, rfl⟩
    obtain ⟨ao, k, rfl⟩ := hform
    have HU := hide hu
    have HR := hide hrow
    have HB := hide hB
    have h1 := hu.cell
    have hle := (cnt_le l).2
    clear hu hrow hB hloop
    gi_wp2_with (first
      | (gi_at_builtin
         refine wpListIn_appN rfl _ _ rfl w.heap.size (.slice ao pre.length k) pre x W.heap.size rfl ((show OwnN W w.heap.size (.slice ao pre.length k) pre from unhide HR).kept (World.grownBy_alloc _ _ none)) rfl (MapKept.heap_alloc _ _).1 (by omega) (by have := (unhide HB).size; simp; omega) ?_
         intro g c w' ho hg hlt
         obtain ⟨b1, b2, b3, b4, b5⟩ := Boxed.appended (unhide HU) (by decide) (unhide HR) (unhide HB).size (Nat.le_refl _) ho hg
         have f1 := b1.cell
         have f2 := b1.frozen
         have B2 := hide b2
         have B3 := hide b3
         have B4 := hide b4
         have B5 := hide b5
         clear b1 b2 b3 b4 b5 ho hg)
      | gi_in)
    have B := unhide B5
    exact ⟨(unhide B4).from _, ⟨B.os, B.tape, B.output, B.size, fun j hj => B.block j hj⟩, ⟨_, unhide B2, unhide B3, trivial⟩, (unhide HB).trans B⟩
  case done =>
    rintro D ys W hD rfl ⟨⟨u, hu, hrow, _⟩, hB⟩ hK
    have h1 := hu.cell
    have HR := hide hrow
    have HB := hide hB
    have hform : ∃ ao n k, u = .slice ao n k := by
      rcases hrow.2 with ⟨rfl, _⟩ | ⟨g, cap, cur, rfl, _⟩
      · exact ⟨_, _, _, rfl⟩
      · exact ⟨_, _, _, rfl⟩
    obtain ⟨ao, n, k, rfl⟩ := hform
    clear hu hrow hB
    gi_wp2_with (fail)
    refine ⟨by simp, .inl ⟨_, _, rfl, run_takeDeferred hK, ?_⟩⟩
    refine ⟨.slice ao n k, ?_, _, rfl, ownsRow_putObj (unhide HR) _ hK rfl, (unhide HB).grown (grownBy_putObj' W D (.deferred none)) (unhide HB).size (fun k e => by cases e; omega)⟩
    simp [results, Try.results44, go_sem]
  case stop =>
    intro D c pre W _ _ h _
    exact h.elim

/-- slices.Collect -/
theorem collectI (v : Value) (l : List ByteArray) (Bm : Nat) (w : World) (hl : l.length ≤ maxLen) (hs : ∀ u ∈ l, u.size ≤ 100000000) (hBm : Bm < w.heap.size) (hc : w.cell? ⟨Bm, 0, none⟩ = some v) (hT : TR w v l) :
    CallsIn Fence.wide 6 Try.prog 38 #[.func (.func 45) #[] #[.pointer (some ⟨Bm, 0, none⟩)]] w fun e w' =>
      ∃ v', e = .returned v' ∧ OwnN w' w.heap.size v' (headsF l) ∧ Below w.heap.size w w' := by
  have H := hide (appSeqI v l Bm w hl hs hBm hc hT)
  clear hs hc hT
  refine callsIn_of_wp Try.func38 rfl trivial ?_ rfl
  simp only [Try.ntmps38, List.size_toArray, List.length_cons, List.length_nil, Nat.reduceAdd, Nat.reduceSub, Array.replicate_succ, Array.replicate_zero, List.push_toArray, List.append_toArray, List.nil_append, List.cons_append]
  gi_wp2_with (fail)
  refine ⟨trivial, (unhide H).mono ?_⟩
  rintro e w' ⟨v', rfl, ho, hb⟩
  gi_wp2
  go_ret
  exact ⟨_, rfl, ho, hb⟩

/-- impl.ChainHeads -/
theorem headsI (v : Value) (l : List ByteArray) (w : World) (h : TR w v l) (hl : l.length ≤ maxLen) (hs : ∀ u ∈ l, u.size ≤ 100000000) :
    Calls Try.prog 14 #[v] w fun e w' => ∃ g cap, e = .returned (.slice (some ⟨g, 0, none⟩) (cnt l + 1) cap) ∧ Ints.Own w' w.heap.size g cap (headsF l) ∧ Below w.heap.size w w' := by
  obtain ⟨a, c, rfl⟩ := h.form
  have n1 := new1 w (.slice a l.length c) 23
  have hb1 : Below w.heap.size w (w.alloc (.cells #[.slice a l.length c] 23)) := (Below.refl _ _).alloc (Nat.le_refl _) _
  have H := hide (collectI _ l w.heap.size _ hl hs (by simp) n1.1 (h.kept hb1))
  have HB1 := hide hb1
  clear n1 h hs hb1
  refine (callsIn_wide (n := 7)).1 ?_
  refine callsIn_of_wp Try.func14 rfl trivial ?_ rfl
  simp only [Try.ntmps14, List.size_toArray, List.length_cons, List.length_nil, Nat.reduceAdd, Nat.reduceSub, Array.replicate_succ, Array.replicate_zero, List.push_toArray, List.append_toArray, List.nil_append, List.cons_append]
  gi_wp2_with (fail)
  refine ⟨trivial, (headsOfI 6 _ rfl _).mono ?_⟩
  rintro e w3 ⟨rfl, rfl⟩
  gi_wp2_with (fail)
  refine ⟨trivial, (unhide H).mono ?_⟩
  rintro e w' ⟨v', rfl, ho, hb⟩
  rw [World.size_alloc] at ho
  have hown : OwnN w' w.heap.size v' (headsF l) := by
    obtain ⟨o1, o2⟩ := ho
    refine ⟨o1, ?_⟩
    rcases o2 with o2 | ⟨g, cap, cur, e1, e2, e3⟩
    · exact .inl o2
    · exact .inr ⟨g, cap, cur, e1, by omega, e3⟩
  obtain ⟨g, cap, rfl⟩ : ∃ g cap, v' = .slice (some ⟨g, 0, none⟩) (headsF l).length cap := by
    rcases hown.2 with ⟨_, h0⟩ | ⟨g, cap, cur, e1, _⟩
    · rw [headsF_len] at h0; omega
    · exact ⟨g, cap, e1⟩
  have HO := hide (show Ints.Own w' w.heap.size g cap (headsF l) from hown)
  have HBB := hide ((unhide HB1).trans (hb.mono (by simp)))
  rw [headsF_len] at *
  clear ho hb hown H HB1
  gi_wp2
  go_ret
  exact ⟨_, _, rfl, unhide HO, unhide HBB⟩
end Go.Proofs.Ytgaflnkefjmblaa.Chain
